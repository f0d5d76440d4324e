import Derived.Deep.RegionLaw
import Derived.Deep.AppendLies
import Derived.Maps.AppendAt
import Derived.Lib.SliceRun
import Derived.Test.YtlgeffinhbodeafGreatPkAG
import Derived.Test.YtlgeffinhbodeafGreatPkAJ
import Derived.Test.YtlgeffinhbodeafGreatPkAE
import Derived.Test.YtlgeffinhbodeafGreatPkAI
import Derived.Test.YtlgeffinhbodeafGreatPkAB
import Derived.Test.YtlgeffinhbodeafGreatPkAD
import Derived.Test.YtlgeffinhbodeafGreatPkAC
/-
  The put of a cell; spec.l3Puts.
-/
namespace Go.Proofs.YtlgeffinhbodeafGreat
open Go.ChangeShapes Go.WideShapes Go.ChangeAt Go.RowKit Go.Deep
set_option linter.unusedVariables false
set_option linter.unusedSimpArgs false
set_option maxRecDepth 100000

theorem ent_boxP (w : World) (e : Ent) : EntsAt (w.alloc (Obj.cells #[.string e.row, .string e.fam, .string e.qual, .int .u64 e.ts, .int .i64 e.kind, .string e.val] 61)) w.heap.size 0 [e] := by
  intro j y hy
  obtain rfl : j = 0 := by
    have := (List.getElem?_eq_some_iff.1 hy).1
    simpa using this
  simp at hy
  subst hy
  simp
/-- The put of a cell. -/
def putE (x : Ent) : Ent := { x with kind := 0 }
set_option maxHeartbeats 400000 in
theorem specPut_any (e : Ent) (w : World) :
    Calls Tryz.prog 70 #[.agg #[.string e.row, .string e.fam, .string e.qual, .int .u64 e.ts, .string e.val]] w fun r w' => r = .returned (putE e).v ∧ Below w.heap.size w w' := by
  go_enter Tryz.func70, Tryz.ntmps70
  go_wp2
  refine bodyPost_ret (v := (putE e).v) (by simp [results, Tryz.results70, go_sem, putE]) rfl ⟨rfl, ?_⟩
  exact ((Below.refl _ _).alloc (Nat.le_refl _) _).alloc (by simp) _
set_option maxHeartbeats 400000 in
theorem implPut_any (e : Ent) (w : World) :
    Calls Tryz.prog 75 #[.agg #[.string e.row, .string e.fam, .string e.qual, .int .u64 e.ts, .string e.val]] w fun r w' => r = .returned (putE e).v ∧ Below w.heap.size w w' := by
  go_enter Tryz.func75, Tryz.ntmps75
  go_wp2
  refine bodyPost_ret (v := (putE e).v) (by simp [results, Tryz.results75, go_sem, putE]) rfl ⟨rfl, ?_⟩
  exact ((Below.refl _ _).alloc (Nat.le_refl _) _).alloc (by simp) _

/-- One entry appended, at a step of a region that draws. -/
theorem step_append_ent {ops : Array Oper} {o : Oper} {a : Act} {K : Act → World → Prop} {Q : Exit → Act → World → Prop} {E : Prop} (w : World) (hgd : o.guard = none) (s x : Operand)
    (ho : o.op = .call { callee := .builtin .append, args := #[s, x], argTypes := #[33, 33] })
    (base g cp n blk : Nat) (fs : List Ent) (e : Ent) (hn : n = fs.length) (hs : a.eval s = .slice (some ⟨g, 0, none⟩) n cp) (hx : a.eval x = .slice (some ⟨blk, 0, none⟩) 1 1) (hO : OwnE w base g cp fs)
    (hc : EntsAt w blk 0 [e]) (hlen : fs.length ≤ 2 ^ 30) (hbase : base ≤ w.heap.size)
    (h : ∀ g' cp' w', OwnE w' base g' cp' (fs ++ [e]) → w.grownBy w' (some g) → (g = g' ∨ g' = w.heap.size) → K (a.put o.dst (.slice (some ⟨g', 0, none⟩) (n + 1) cp')) w') : if Region.wanted o (yielded ops a.tmps) = true then Oper.wp Tryz.prog o a w K Q else E := by
  subst hn
  obtain ⟨i, hi, hz0, hz1, hz2⟩ := info_parts Tryz.infoEnt
  obtain ⟨c0, c1, c2, c3, c4, c5⟩ := hc 0 e rfl
  refine step_append_lies w hgd s x 33 ho base 61 i _ 6 80 Tryz.underlying33 hi hz0 hz1 hz2 rfl (by decide) (.slice (some ⟨g, 0, none⟩) fs.length cp) fs.length (cellsE fs) hs hO ⟨blk, 0, none⟩ 1 1 (cellsE [e]) hx rfl ?_ ?_ (by decide) ?_ ?_ hbase w.heap.size rfl ?_
  · intro j u hu
    have hj : j < 6 := by
      have := (List.getElem?_eq_some_iff.1 hu).1
      rw [length_cellsE] at this
      simpa using this
    rw [Addr.add_mid, Nat.zero_add]
    simp only [Nat.zero_mul, Nat.zero_add] at c0 c1 c2 c3 c4 c5
    match j, hj, hu with
    | 0, _, hu => simp [cellsE] at hu; rw [← hu]; exact c0
    | 1, _, hu => simp [cellsE] at hu; rw [← hu]; exact c1
    | 2, _, hu => simp [cellsE] at hu; rw [← hu]; exact c2
    | 3, _, hu => simp [cellsE] at hu; rw [← hu]; exact c3
    | 4, _, hu => simp [cellsE] at hu; rw [← hu]; exact c4
    | 5, _, hu => simp [cellsE] at hu; rw [← hu]; exact c5
  · intro u hu
    simp [cellsE] at hu
    rcases hu with rfl | rfl | rfl | rfl | rfl | rfl <;> rfl
  · unfold maxLen; omega
  · omega
  · intro g' cp' w' hO' hgr hat hlt
    refine h g' cp' w' ?_ hgr ?_
    · unfold OwnE
      rw [List.length_append, cellsE_append]
      exact hO'
    · rcases hat with q | q
      · exact .inl (by simpa [Value.ownBlock] using q)
      · exact .inr q
def putsTo (L : List Ent) (m : Nat) : List Ent := (L.take m).map putE
theorem putsTo_succ {L : List Ent} {m : Nat} {x : Ent} (h : L[m]? = some x) : putsTo L (m + 1) = putsTo L m ++ [putE x] := by
  unfold putsTo; rw [List.take_add_one, h]; simp
theorem putsTo_len {L : List Ent} {m : Nat} (h : m ≤ L.length) : (putsTo L m).length = m := by simp [putsTo]; omega
theorem putsTo_all {L : List Ent} {m : Nat} (h : L.length ≤ m) : putsTo L m = L.map putE := by unfold putsTo; rw [List.take_of_length_le h]

/-- How the putting stands. -/
structure PInv (w : World) (ov : Nat) (L : List Ent) (m g5 cp5 : Nat) (wr : World) : Prop where
  hdr : wr.cell? ⟨ov, 0, none⟩ = some (.slice (some ⟨g5, 0, none⟩) m cp5)
  free : wr.frozen? ⟨ov, 0, none⟩ = false
  lt : ov < wr.heap.size
  own : w.heap.size < ov
  row : OwnE wr w.heap.size g5 cp5 (putsTo L m)
  ne : ¬ g5 = ov
  new : w.heap.size < g5
  res : wr.cell? ⟨w.heap.size, 0, none⟩ = some (.slice none 0 0)
  rfree : wr.frozen? ⟨w.heap.size, 0, none⟩ = false
  below : Below w.heap.size w wr
theorem PInv.step {w : World} {ov : Nat} {L : List Ent} {m g5 cp5 : Nat} {wr w' : World} (h : PInv w ov L m g5 cp5 wr) (hb : Below wr.heap.size wr w') : PInv w ov L m g5 cp5 w' where
  hdr := by rw [hb.cell (p := ⟨ov, 0, none⟩) h.lt]; exact h.hdr
  free := by rw [hb.frozen (p := ⟨ov, 0, none⟩) h.lt]; exact h.free
  lt := by have := hb.size; have := h.lt; omega
  own := h.own
  row := h.row.below hb h.row.lt.2
  ne := h.ne
  new := h.new
  res := by rw [hb.cell (p := ⟨w.heap.size, 0, none⟩) (by have := h.own; have := h.lt; show w.heap.size < wr.heap.size; omega)]; exact h.res
  rfree := by rw [hb.frozen (p := ⟨w.heap.size, 0, none⟩) (by have := h.own; have := h.lt; show w.heap.size < wr.heap.size; omega)]; exact h.rfree
  below := h.below.trans (hb.mono h.below.size)
theorem PInv.push {w : World} {ov : Nat} {L : List Ent} {m g5 cp5 : Nat} {wA w7 : World} (h : PInv w ov L m g5 cp5 wA) {x : Ent} (hx : L[m]? = some x) {g7 cp7 : Nat} (hO : OwnE w7 w.heap.size g7 cp7 (putsTo L m ++ [putE x])) (hgr : wA.grownBy w7 (some g5)) (hgg : g5 = g7 ∨ g7 = wA.heap.size) :
    PInv w ov L (m + 1) g7 cp7 (w7.setCell ⟨ov, 0, none⟩ (.slice (some ⟨g7, 0, none⟩) (m + 1) cp7)) ∧ w7.cell? ⟨ov, 0, none⟩ = some (.slice (some ⟨g5, 0, none⟩) m cp5) ∧ w7.frozen? ⟨ov, 0, none⟩ = false := by
  have hc7 : Chg (fun k => k = g5) wA w7 := Chg.of_grown hgr (fun k hk => by cases hk; rfl)
  have hc8 : Chg (fun k => k = ov) w7 (w7.setCell ⟨ov, 0, none⟩ (.slice (some ⟨g7, 0, none⟩) (m + 1) cp7)) := Chg.of_set _ _ _ _ rfl
  have s7 := hc7.size
  have s8 := hc8.size
  have hl := h.lt
  have ho := h.own
  have hn := h.new
  have c7 : w7.cell? ⟨ov, 0, none⟩ = some (.slice (some ⟨g5, 0, none⟩) m cp5) := by rw [hc7.cell (p := ⟨ov, 0, none⟩) hl (fun q => h.ne q.symm)]; exact h.hdr
  have f7 : w7.frozen? ⟨ov, 0, none⟩ = false := by rw [hc7.frozen (p := ⟨ov, 0, none⟩) hl (fun q => h.ne q.symm)]; exact h.free
  have hne7 : ¬ g7 = ov := by
    rcases hgg with q | q
    · rw [← q]; exact h.ne
    · omega
  refine ⟨?_, c7, f7⟩
  exact {
    hdr := World.cell?_setCell_same _ _ _ c7
    free := by rw [World.frozen?_setCell]; exact f7
    lt := by omega
    own := ho
    row := by
      rw [putsTo_succ hx]
      exact World.ownsRow.kept hO (grown_set w7 ov 0 _) (.inr (fun q => hne7 (Option.some.inj q)))
    ne := hne7
    new := by
      rcases hgg with q | q
      · rw [← q]; exact hn
      · omega
    res := by
      rw [hc8.cell (p := ⟨w.heap.size, 0, none⟩) (by show w.heap.size < w7.heap.size; omega) (by show ¬ w.heap.size = ov; omega), hc7.cell (p := ⟨w.heap.size, 0, none⟩) (by show w.heap.size < wA.heap.size; omega) (by show ¬ w.heap.size = g5; omega)]
      exact h.res
    rfree := by
      rw [hc8.frozen (p := ⟨w.heap.size, 0, none⟩) (by show w.heap.size < w7.heap.size; omega) (by show ¬ w.heap.size = ov; omega), hc7.frozen (p := ⟨w.heap.size, 0, none⟩) (by show w.heap.size < wA.heap.size; omega) (by show ¬ w.heap.size = g5; omega)]
      exact h.rfree
    below := Chg.below (Chg.below h.below hc7 h.below.size (fun k q => by omega)) hc8 (by omega) (fun k q => by omega) }

set_option maxHeartbeats 4000000 in
theorem puts_core (g cap : Nat) (L : List Ent) (base : Nat) (w : World) (hC : OwnC w base g cap L) (hn : L.length ≤ 1048576) :
    Calls Tryz.prog 41 #[.slice (some ⟨g, 0, none⟩) L.length cap] w fun r w' =>
      ∃ g' cp, r = .returned (.agg #[.slice (some ⟨g', 0, none⟩) L.length cp]) ∧ OwnE w' w.heap.size g' cp (L.map putE) ∧ Below w.heap.size w w' := by
  have HC : Hid (OwnC w base g cap L) := hC
  have hgl := hC.lt.2
  clear hC
  obtain ⟨Wa, hWa⟩ : ∃ Wa : World, Wa = w.alloc (Obj.cells #[.slice none 0 0] 58) := ⟨_, rfl⟩
  have hba : Below w.heap.size w Wa := by rw [hWa]; exact (Below.refl _ _).alloc (Nat.le_refl _) _
  have hza : Wa.heap.size = w.heap.size + 1 := by rw [hWa]; simp
  obtain ⟨Wb, hWb⟩ : ∃ Wb : World, Wb = Wa.alloc (Obj.cells #[] 61) := ⟨_, rfl⟩
  have hbb : Below Wa.heap.size Wa Wb := by rw [hWb]; exact (Below.refl _ _).alloc (Nat.le_refl _) _
  have hzb : Wb.heap.size = w.heap.size + 1 + 1 := by rw [hWb]; simp [hza]
  obtain ⟨Wc, hWc⟩ : ∃ Wc : World, Wc = Wb.alloc (Obj.cells #[.slice (some ⟨w.heap.size + 1, 0, none⟩) 0 0] 58) := ⟨_, rfl⟩
  have hbc : Below Wb.heap.size Wb Wc := by rw [hWc]; exact (Below.refl _ _).alloc (Nat.le_refl _) _
  have hzc : Wc.heap.size = w.heap.size + 1 + 1 + 1 := by rw [hWc]; simp [hzb]
  have HP : Hid (PInv w (w.heap.size + 1 + 1) L 0 (w.heap.size + 1) 0 Wc) := by
    have k1 : Below Wa.heap.size Wa Wc := hbb.trans (hbc.mono (by omega))
    exact {
      hdr := by rw [hWc, ← hzb]; simp
      free := by
        rw [hWc, ← hzb]
        exact World.ownsRow.frozenAt (World.ownsRow_lit (base := 0) (e := 58) (size := 1) Wb #[.slice (some ⟨w.heap.size + 1, 0, none⟩) 0 0] 1 (Nat.zero_le _) (by decide) rfl) 0
      lt := by omega
      own := by omega
      row := by
        have h0 : OwnE Wb w.heap.size (w.heap.size + 1) 0 [] := by
          rw [hWb, ← hza]
          exact World.ownsRow_made Wa #[] 0 (by omega) (Nat.zero_le _) (by simp)
        exact h0.below hbc (by omega)
      ne := by omega
      new := by omega
      res := by
        rw [k1.cell (p := ⟨w.heap.size, 0, none⟩) (by show w.heap.size < Wa.heap.size; omega), hWa]; simp
      rfree := by
        rw [k1.frozen (p := ⟨w.heap.size, 0, none⟩) (by show w.heap.size < Wa.heap.size; omega), hWa]
        exact World.ownsRow.frozenAt (World.ownsRow_lit (base := 0) (e := 58) (size := 1) w #[.slice none 0 0] 1 (Nat.zero_le _) (by decide) rfl) 0
      below := hba.trans (k1.mono (by omega)) }
  go_enter Tryz.func41, Tryz.ntmps41
  go_wp2_with fail
  rw [← hWa, ← hWb, ← hWc]
  clear hWa hWb hWc hba hbb hbc
  generalize w.heap.size + 1 + 1 = ov at *
  generalize w.heap.size + 1 = g0 at *
  go_loopw [4] (fun i wr => ∃ (m g5 cp5 : Nat), m ≤ L.length ∧ i = .int .i64 m ∧ PInv w ov L m g5 cp5 wr) (fun i _ => L.length - (intOf i).toNat)
  case atStart => exact ⟨0, _, _, Nat.zero_le _, rfl, HP.out⟩
  case round =>
    obtain ⟨m, g5, cp5, hm, rfl, hI⟩ := hrel
    have HI : Hid (PInv w ov L m g5 cp5 wr) := hI
    have hbw := hI.below
    have hsw := hbw.size
    have h0 := hI.hdr
    have hf0 := hI.free
    have hgl5 := hI.row.lt.2
    have hlo := hI.lt
    clear hI HP
    by_cases hlt : m < L.length
    · obtain ⟨x, hx⟩ : ∃ x, L[m]? = some x := ⟨_, List.getElem?_eq_getElem hlt⟩
      obtain ⟨c0, c1, c2, c3, c4⟩ := (HC.out.below hbw hgl).at m x hx
      simp only [Nat.zero_add, Nat.zero_mul] at c0 c1 c2 c3 c4
      have HX : Hid (L[m]? = some x ∧ CelsAt wr g 0 L) := ⟨hx, (HC.out.below hbw hgl).at⟩
      have HTM : Hid (m = (putsTo L m).length) := (putsTo_len hm).symm
      have hpl : (putsTo L m).length ≤ 2 ^ 30 := by rw [← HTM.out]; omega
      clear hx
      have zm : (m : Int) < (L.length : Int) := by omega
      have ngo : g ≠ ov := by have := HI.out.own; omega
      have hgr0 : g < wr.heap.size := by omega
      go_upto_region 5 with fail
      go_region_law ((first
                | (go_simp; go_at_call 70; refine (specPut_any x _).mono ?_; rintro e' w6 ⟨rfl, hb6⟩; have hq6 : Below wr.heap.size wr w6 := ((Below.refl wr.heap.size wr).drew).trans hb6; have m6 := (HI.out.step hq6).hdr; have m6a : ∀ o, (w6.alloc o).cell? ⟨ov, 0, none⟩ = some (.slice (some ⟨g5, 0, none⟩) m cp5) := fun o => by { rw [((Below.refl w6.heap.size w6).alloc (Nat.le_refl _) o).cell (p := ⟨ov, 0, none⟩) (Nat.lt_of_lt_of_le hlo hq6.size)]; exact m6 })
                | (refine step_append_ent _ (by rfl) _ _ (by rfl) w.heap.size g5 cp5 m w6.heap.size (putsTo L m) (putE x) HTM.out (by rfl) (by rfl) ?hO ?hc hpl ?hb ?_
                   case hO => exact (HI.out.step hq6).row.below ((Below.refl _ _).alloc (Nat.le_refl _) _) (Nat.lt_of_lt_of_le hgl5 hq6.size)
                   case hc => exact ent_boxP w6 (putE x)
                   case hb => exact Nat.le_trans hsw (Nat.le_trans hq6.size (by simp))
                   intro g7 cp7 w7 hO7 hgr7 hgg7
                   have hpp := ((HI.out.step hq6).step ((Below.refl w6.heap.size w6).alloc (Nat.le_refl _) (Obj.cells #[.string (putE x).row, .string (putE x).fam, .string (putE x).qual, .int .u64 (putE x).ts, .int .i64 (putE x).kind, .string (putE x).val] 61))).push HX.out.1 hO7 hgr7 (by simpa using hgg7)
                   have fin7 : Hid (PInv w ov L (m + 1) g7 cp7 (w7.setCell ⟨ov, 0, none⟩ (.slice (some ⟨g7, 0, none⟩) (m + 1) cp7))) := hpp.1
                   have m7 := hpp.2.1
                   have f7 := hpp.2.2
                   clear hpp hO7 hgr7 hgg7)))
      all_goals go_wp2_with fail
      all_goals go_roundw
      all_goals first
        | exact ⟨m + 1, g7, cp7, by omega, by go_num, fin7.out⟩
        | (go_light; simp [intOf]; omega)
    · have hml : m = L.length := by omega
      have HF : Hid (OwnE wr w.heap.size g5 cp5 (L.map putE)) := by have := HI.out.row; rw [putsTo_all (by omega)] at this; exact this
      have r0 := HI.out.res
      have rf := HI.out.rfree
      have HM : Hid (m = L.length) := hml
      have zm : ¬ (m : Int) < (L.length : Int) := by omega
      have hnew := HI.out.new
      clear hml
      go_wp2_with fail
      refine bodyPost_ret (v := .agg #[.slice (some ⟨g5, 0, none⟩) m cp5]) (by simp [results, Tryz.results41, go_sem, World.cell?_setCell_same _ _ _ r0]) rfl ⟨g5, cp5, by rw [HM.out], ?_, ?_⟩
      · exact World.ownsRow.kept HF.out (grown_set wr w.heap.size 0 _) (.inr (fun q => by have h2 : g5 = w.heap.size := Option.some.inj q; omega))
      · exact hbw.setCell (Nat.le_refl _) _

end Go.Proofs.YtlgeffinhbodeafGreat

/-
  spec.CompactRuns, impl.CompactRuns.
-/
namespace Go.Proofs.YtlgeffinhbodeafGreat
open Go.ChangeShapes Go.WideShapes Go.ChangeAt Go.RowKit Go.Deep
set_option linter.unusedVariables false
set_option linter.unusedSimpArgs false
set_option maxRecDepth 100000

/-- What a compacted run may be. -/
def CmpOf (rs : List (List Ent)) (R : List Ent) : Prop := ∃ L, MrgOf rs (inR ⟨#[]⟩ false ⟨#[]⟩) L ∧ ((10000 < L.length ∧ R = []) ∨ (L.length ≤ 10000 ∧ R = L.map putE))
theorem cmpOf_uniq {rs : List (List Ent)} {R R' : List Ent} (h : CmpOf rs R) (k : CmpOf rs R') : R = R' := by
  obtain ⟨L, h1, h2⟩ := h
  obtain ⟨M, k1, k2⟩ := k
  have := mrgOf_uniq h1 k1
  subst this
  rcases h2 with ⟨a, b⟩ | ⟨a, b⟩ <;> rcases k2 with ⟨c, d⟩ | ⟨c, d⟩
  · rw [b, d]
  · omega
  · omega
  · rw [b, d]
theorem cmpOf_len {rs : List (List Ent)} {R : List Ent} (h : CmpOf rs R) : R.length ≤ 10000 := by
  obtain ⟨L, h1, h2⟩ := h
  rcases h2 with ⟨a, b⟩ | ⟨a, b⟩
  · rw [b]; simp
  · rw [b]; simpa using a

end Go.Proofs.YtlgeffinhbodeafGreat

/-
  The compacted run of good runs is good and shows what they show (no memory).
-/
namespace Go.Proofs.YtlgeffinhbodeafGreat
set_option linter.unusedVariables false
set_option linter.unusedSimpArgs false

theorem nodup_ord {L : List Ent} (h : Ord L) : L.Nodup := by
  refine List.Pairwise.imp ?_ h
  rintro a b hab rfl
  have : keyCmp a a = 0 := keyCmp_zero.2 (by simp)
  omega
theorem nodup_sub_len : ∀ {L M : List Ent}, L.Nodup → (∀ x ∈ L, x ∈ M) → L.length ≤ M.length
  | [], _, _, _ => Nat.zero_le _
  | x :: L, M, h, hs => by
    obtain ⟨a, b, rfl⟩ := List.append_of_mem (hs x (by simp))
    have hx := List.nodup_cons.1 h
    have ih := nodup_sub_len (L := L) (M := a ++ b) hx.2 (fun y hy => by
      have := hs y (List.mem_cons_of_mem _ hy)
      simp only [List.mem_append, List.mem_cons] at this ⊢
      rcases this with q | rfl | q
      · exact .inl q
      · exact absurd hy hx.1
      · exact .inr q)
    simp only [List.length_append, List.length_cons] at ih ⊢
    omega
theorem flatten_len {rs : List (List Ent)} {c : Nat} (h : ∀ es ∈ rs, es.length ≤ c) : rs.flatten.length ≤ rs.length * c := by
  induction rs with
  | nil => simp
  | cons a r ih =>
    have h1 := ih (fun es he => h es (List.mem_cons_of_mem _ he))
    have h2 := h a (by simp)
    simp only [List.flatten_cons, List.length_append, List.length_cons, Nat.succ_mul]
    omega
theorem mrg_short {rs : List (List Ent)} {inr : ByteArray → Bool} {L : List Ent} (h : MrgOf rs inr L) (hc : ∀ es ∈ rs, es.length ≤ 101) : L.length ≤ 10000 := by
  by_cases g : GoodRs rs
  · have h1 := nodup_sub_len (nodup_ord (h.1 g).1) (mrg_len (h.1 g))
    have h2 := flatten_len hc
    have h3 : rs.length * 101 ≤ 50 * 101 := Nat.mul_le_mul_right _ g.1
    omega
  · rw [h.2 g]; simp
theorem inR_all (r : ByteArray) : inR ⟨#[]⟩ false ⟨#[]⟩ r = true := by
  have h : (⟨#[]⟩ : ByteArray).toList = [] := by rw [ByteArray.toList_eq]
  unfold inR
  rw [h]
  cases r.toList <;> simp [Op.bytesLess]
theorem putE_of {x : Ent} (h : x.kind = 0) : putE x = x := by
  cases x
  simp [putE] at h ⊢
  exact h.symm
theorem puts_same {L : List Ent} (h : ∀ x ∈ L, x.kind = 0) : L.map putE = L := by
  induction L with
  | nil => rfl
  | cons a r ih => rw [List.map_cons, putE_of (h a (by simp)), ih (fun x hx => h x (List.mem_cons_of_mem _ hx))]
theorem good_of_mrg {rs : List (List Ent)} {L : List Ent} (hG : GoodRs rs) (h : Mrg rs (inR ⟨#[]⟩ false ⟨#[]⟩) L) (hn : L.length ≤ 10000) : GoodR L := by
  refine ⟨⟨hn, fun x hx => ?_⟩, fun i p e hp he => ?_⟩
  · obtain ⟨i, j, ⟨es, h1, h2⟩, _⟩ := (h.2 x).1 hx
    exact (hG.2 es (List.mem_of_getElem? h1)).1.2 x (List.mem_of_getElem? h2)
  · have hk := ord_get h.1 (Nat.lt_succ_self i) hp he
    obtain ⟨_, _, _, hg⟩ := (h.2 p).1 (List.mem_of_getElem? hp)
    unfold okPair
    simp [hk, hg.1]
theorem goodR_nil : GoodR [] := ⟨⟨by simp, fun x hx => by simp at hx⟩, fun i p e hp => by simp at hp⟩
theorem goodRs_one {R : List Ent} (h : GoodR R) : GoodRs [R] := ⟨by simp, fun es he => by simp at he; subst he; exact h⟩
/-- What the one run shows. -/
theorem mrg_one {R : List Ent} {inr : ByteArray → Bool} {M : List Ent} (h : Mrg [R] inr M) (x : Ent) : x ∈ M ↔ x ∈ R ∧ x.kind = 0 ∧ inr x.row = true := by
  refine (h.2 x).trans ⟨?_, ?_⟩
  · rintro ⟨i, j, ⟨es, h1, h2⟩, hg⟩
    have : es = R := by
      cases i with
      | zero => simpa using h1.symm
      | succ i => simp at h1
    subst this
    exact ⟨List.mem_of_getElem? h2, hg.1, hg.2.1⟩
  · rintro ⟨hx, hk, hi⟩
    obtain ⟨j, hj⟩ := List.getElem?_of_mem hx
    exact ⟨0, j, ⟨R, rfl, hj⟩, hk, hi, hidTo_zero _ _⟩
theorem compact_shows {rs : List (List Ent)} {R M W : List Ent} {inr : ByteArray → Bool} (hR : CmpOf rs R) (hc : ∀ es ∈ rs, es.length ≤ 101) (hW : MrgOf rs inr W) : GoodR R ∧ (MrgOf [R] inr M → M = W) := by
  obtain ⟨L, hL, h⟩ := hR
  have hn := mrg_short hL hc
  have hRL : R = L.map putE := by
    rcases h with ⟨h, _⟩ | ⟨_, h⟩
    · omega
    · exact h
  clear h
  by_cases g : GoodRs rs
  · have hm := hL.1 g
    have hk : ∀ x ∈ L, x.kind = 0 := fun x hx => by obtain ⟨_, _, _, hg⟩ := (hm.2 x).1 hx; exact hg.1
    rw [puts_same hk] at hRL
    subst hRL
    have hg := good_of_mrg g hm hn
    refine ⟨hg, fun hM => ?_⟩
    have h1 := hM.1 (goodRs_one hg)
    have h2 := hW.1 g
    refine ord_ext h1.1 h2.1 (fun x => (mrg_one h1 x).trans ⟨?_, ?_⟩)
    · rintro ⟨hx, _, hi⟩
      obtain ⟨i, j, ha, hg⟩ := (hm.2 x).1 hx
      exact (h2.2 x).2 ⟨i, j, ha, hg.1, hi, hg.2.2⟩
    · intro hx
      obtain ⟨i, j, ha, hg⟩ := (h2.2 x).1 hx
      exact ⟨(hm.2 x).2 ⟨i, j, ha, hg.1, inR_all _, hg.2.2⟩, hg.1, hg.2.1⟩
  · rw [hL.2 g] at hRL
    simp at hRL
    subst hRL
    refine ⟨goodR_nil, fun hM => ?_⟩
    rw [hW.2 g]
    refine List.eq_nil_iff_forall_not_mem.2 (fun x hx => ?_)
    have := ((mrg_one (hM.1 (goodRs_one goodR_nil)) x).1 hx).1
    simp at this
theorem compact_mem {rs : List (List Ent)} {R : List Ent} (hR : CmpOf rs R) : ∀ x ∈ R, ∃ es ∈ rs, x ∈ es := by
  obtain ⟨L, hL, h⟩ := hR
  rcases h with ⟨_, h⟩ | ⟨_, h⟩
  · subst h; intro x hx; simp at hx
  · by_cases g : GoodRs rs
    · have hm := hL.1 g
      have hk : ∀ x ∈ L, x.kind = 0 := fun x hx => by obtain ⟨_, _, _, hg⟩ := (hm.2 x).1 hx; exact hg.1
      rw [puts_same hk] at h
      subst h
      intro x hx
      obtain ⟨i, j, ⟨es, h1, h2⟩, _⟩ := (hm.2 x).1 hx
      exact ⟨es, List.mem_of_getElem? h1, List.mem_of_getElem? h2⟩
    · rw [hL.2 g] at h
      subst h
      intro x hx
      simp at hx
end Go.Proofs.YtlgeffinhbodeafGreat

/-
  Appends to rows of entries, runs and tablets; slices.Clone over entries.
-/
namespace Go.Proofs.YtlgeffinhbodeafGreat
open Go.ChangeShapes Go.WideShapes Go.ChangeAt Go.RowKit Go.Deep
set_option linter.unusedVariables false
set_option linter.unusedSimpArgs false
set_option maxRecDepth 100000

theorem ents_cells {w : World} {b off : Nat} {es : List Ent} (h : EntsAt w b off es) : ∀ j u, (cellsE es)[j]? = some u → w.cell? ((⟨b, off, none⟩ : Addr).add j) = some u := by
  intro j u hu
  have hj : j < es.length * 6 := by rw [← length_cellsE]; exact (List.getElem?_eq_some_iff.1 hu).1
  obtain ⟨e, he⟩ : ∃ e, es[j / 6]? = some e := ⟨_, List.getElem?_eq_getElem (by omega)⟩
  have hg := cellsE_get es (j / 6) e he (j % 6) (Nat.mod_lt _ (by omega))
  rw [show j / 6 * 6 + j % 6 = j by omega, hu] at hg
  obtain ⟨c0, c1, c2, c3, c4, c5⟩ := h (j / 6) e he
  rw [Addr.add_mid, show off + j = off + j / 6 * 6 + j % 6 by omega]
  have hm : j % 6 < 6 := Nat.mod_lt _ (by omega)
  generalize j % 6 = m at *
  match m, hm, hg with
  | 0, _, hg => rw [Nat.add_zero, c0, hg]; rfl
  | 1, _, hg => rw [c1, hg]; rfl
  | 2, _, hg => rw [c2, hg]; rfl
  | 3, _, hg => rw [c3, hg]; rfl
  | 4, _, hg => rw [c4, hg]; rfl
  | 5, _, hg => rw [c5, hg]; rfl
theorem ents_one (es : List Ent) : ∀ u ∈ cellsE es, u.oneCell' = true := by
  intro u hu
  unfold cellsE at hu
  obtain ⟨e, _, he⟩ := List.mem_flatMap.1 hu
  simp at he
  rcases he with rfl | rfl | rfl | rfl | rfl | rfl <;> rfl

/-- Entries appended to a row of the call's own. -/
theorem wpList_append_entO {ops : Array Oper} {rest : List Oper} {o : Oper} {a : Act} {Q : Exit → Act → World → Prop} (w : World) (hgd : o.guard = none) (s x : Operand)
    (ho : o.op = .call { callee := .builtin .append, args := #[s, x], argTypes := #[33, 33] })
    (base g cp n b off m cx : Nat) (fs es : List Ent) (hs : a.eval s = .slice (some ⟨g, 0, none⟩) n cp) (hx : a.eval x = .slice (some ⟨b, off, none⟩) m cx) (hn : n = fs.length) (hm : m = es.length) (hO : OwnE w base g cp fs)
    (hc : EntsAt w b off es) (hlen : fs.length + es.length ≤ 2 ^ 30) (hbase : base ≤ w.heap.size)
    (h : ∀ g' cp' w', OwnE w' base g' cp' (fs ++ es) → w.grownBy w' (some g) → (g' = g ∨ g' = w.heap.size) → wpList Tryz.prog ops Q rest (a.put o.dst (.slice (some ⟨g', 0, none⟩) (n + m) cp')) w') : wpList Tryz.prog ops Q (o :: rest) a w := by
  subst hn hm
  obtain ⟨i, hi, hz0, hz1, hz2⟩ := info_parts Tryz.infoEnt
  refine wpList_append_own_at w hgd s x 33 ho base 61 i _ 6 80 Tryz.underlying33 hi hz0 hz1 hz2 rfl (by decide) (.slice (some ⟨g, 0, none⟩) fs.length cp) fs.length (cellsE fs) hs hO ⟨b, off, none⟩ es.length cx (cellsE es) hx (length_cellsE es) (ents_cells hc) (ents_one es) ?_ ?_ hbase ?_
  · unfold maxLen; omega
  · omega
  · intro v' w' hO' hgr hnil hat
    rcases hO'.2 with ⟨h0, _⟩ | ⟨g', cap', cur, hv, _, _, hn, hcap, _, _⟩
    · have := (hnil.1 h0).1
      cases this
    · subst hv
      refine h g' cap' w' ?_ hgr ?_
      · unfold OwnE
        rw [List.length_append, cellsE_append]
        exact hO'
      · simpa [Value.ownBlock] using hat

/-- What an append to a row of runs leaves behind. -/
structure AppR (w w' : World) (base : Nat) (v v' : Value) (us ns : List Value) : Prop where
  row : w'.ownsRow base 58 1 v' (us ++ ns).length (us ++ ns)
  grown : w.grownBy w' v.ownBlock
  nil : v' = .slice none 0 0 ↔ v = .slice none 0 0 ∧ ns.length = 0
  blk : v'.ownBlock = v.ownBlock ∨ v'.ownBlock = some w.heap.size
theorem AppR.form {w w' : World} {base : Nat} {v v' : Value} {us ns : List Value} (h : AppR w w' base v v' us ns) (hv : v ≠ .slice none 0 0) : ∃ g cp, v' = .slice (some ⟨g, 0, none⟩) (us ++ ns).length cp := by
  rcases h.row.2 with ⟨h0, _⟩ | ⟨g3, cap', cur, hv', _⟩
  · exact absurd (h.nil.1 h0).1 hv
  · exact ⟨g3, cap', hv'⟩
/-- Slices appended to a row of runs (nil too). -/
theorem wpList_append_runO {ops : Array Oper} {rest : List Oper} {o : Oper} {a : Act} {Q : Exit → Act → World → Prop} (w : World) (hgd : o.guard = none) (s x : Operand)
    (ho : o.op = .call { callee := .builtin .append, args := #[s, x], argTypes := #[54, 54] })
    (base : Nat) (v : Value) (us : List Value) (b off m cx : Nat) (ns : List Value) (hs : a.eval s = v) (hx : a.eval x = .slice (some ⟨b, off, none⟩) m cx) (hm : m = ns.length) (hO : w.ownsRow base 58 1 v us.length us)
    (hc : ∀ j u, ns[j]? = some u → w.cell? ⟨b, off + j, none⟩ = some u) (h1 : ∀ u ∈ ns, u.oneCell' = true) (hlen : us.length + ns.length ≤ 2 ^ 30) (hbase : base ≤ w.heap.size)
    (h : ∀ v' w', AppR w w' base v v' us ns → wpList Tryz.prog ops Q rest (a.put o.dst v') w') : wpList Tryz.prog ops Q (o :: rest) a w := by
  subst hm
  obtain ⟨i, hi, hz0, hz1, hz2⟩ := info_parts Tryz.infoRun
  refine wpList_append_own_at w hgd s x 54 ho base 58 i _ 1 24 Tryz.underlying54 hi hz0 hz1 hz2 rfl (by decide) v us.length us hs hO ⟨b, off, none⟩ ns.length cx ns hx (by omega) (fun j u hu => by rw [Addr.add_mid]; exact hc j u hu) h1 ?_ ?_ hbase ?_
  · unfold maxLen; omega
  · omega
  · intro v' w' hO' hgr hnil hat
    exact h v' w' ⟨by rw [List.length_append]; exact hO', hgr, hnil, hat⟩
/-- What an append to a row of tablets leaves behind. -/
structure AppT (w w' : World) (base : Nat) (v v' : Value) (us ns : List Pr) : Prop where
  row : w'.ownsRow base 56 2 v' (us ++ ns).length (cellsP (us ++ ns))
  grown : w.grownBy w' v.ownBlock
  nil : v' = .slice none 0 0 ↔ v = .slice none 0 0 ∧ ns.length = 0
  blk : v'.ownBlock = v.ownBlock ∨ v'.ownBlock = some w.heap.size
theorem AppT.form {w w' : World} {base : Nat} {v v' : Value} {us ns : List Pr} (h : AppT w w' base v v' us ns) (hv : v ≠ .slice none 0 0 ∨ 0 < ns.length) : ∃ g cp, v' = .slice (some ⟨g, 0, none⟩) (us ++ ns).length cp := by
  rcases h.row.2 with ⟨h0, _⟩ | ⟨g3, cap', cur, hv', _⟩
  · have := h.nil.1 h0
    rcases hv with hv | hv
    · exact absurd this.1 hv
    · omega
  · exact ⟨g3, cap', hv'⟩
theorem pcells {w : World} {b off : Nat} {ps : List Pr} (h : ∀ i p, ps[i]? = some p → w.cell? ⟨b, off + i * 2, none⟩ = some (.string p.1) ∧ w.cell? ⟨b, off + i * 2 + 1, none⟩ = some p.2) : ∀ j u, (cellsP ps)[j]? = some u → w.cell? ((⟨b, off, none⟩ : Addr).add j) = some u := by
  intro j u hu
  have hj : j < ps.length * 2 := by rw [← length_cellsP]; exact (List.getElem?_eq_some_iff.1 hu).1
  obtain ⟨e, he⟩ : ∃ e, ps[j / 2]? = some e := ⟨_, List.getElem?_eq_getElem (by omega)⟩
  have hg := cellsP_get ps (j / 2) e he (j % 2) (Nat.mod_lt _ (by omega))
  rw [show j / 2 * 2 + j % 2 = j by omega, hu] at hg
  obtain ⟨c0, c1⟩ := h (j / 2) e he
  rw [Addr.add_mid, show off + j = off + j / 2 * 2 + j % 2 by omega]
  have hm : j % 2 < 2 := Nat.mod_lt _ (by omega)
  generalize j % 2 = m at *
  match m, hm, hg with
  | 0, _, hg => rw [Nat.add_zero, c0, hg]; rfl
  | 1, _, hg => rw [c1, hg]; rfl
/-- Tablets appended to a row of tablets (nil too). -/
theorem wpList_append_tabO {ops : Array Oper} {rest : List Oper} {o : Oper} {a : Act} {Q : Exit → Act → World → Prop} (w : World) (hgd : o.guard = none) (s x : Operand)
    (ho : o.op = .call { callee := .builtin .append, args := #[s, x], argTypes := #[28, 28] })
    (base : Nat) (v : Value) (us : List Pr) (b off m cx : Nat) (ns : List Pr) (hs : a.eval s = v) (hx : a.eval x = .slice (some ⟨b, off, none⟩) m cx) (hm : m = ns.length) (hO : w.ownsRow base 56 2 v us.length (cellsP us))
    (hc : ∀ i p, ns[i]? = some p → w.cell? ⟨b, off + i * 2, none⟩ = some (.string p.1) ∧ w.cell? ⟨b, off + i * 2 + 1, none⟩ = some p.2) (h1 : ∀ p ∈ ns, p.2.oneCell' = true) (hlen : us.length + ns.length ≤ 2 ^ 30) (hbase : base ≤ w.heap.size)
    (h : ∀ v' w', AppT w w' base v v' us ns → wpList Tryz.prog ops Q rest (a.put o.dst v') w') : wpList Tryz.prog ops Q (o :: rest) a w := by
  subst hm
  obtain ⟨i, hi, hz0, hz1, hz2⟩ := info_parts Tryz.infoTab
  refine wpList_append_own_at w hgd s x 28 ho base 56 i _ 2 40 Tryz.underlying28 hi hz0 hz1 hz2 rfl (by decide) v us.length (cellsP us) hs hO ⟨b, off, none⟩ ns.length cx (cellsP ns) hx (length_cellsP ns) (pcells hc) (fun u hu => ?_) ?_ ?_ hbase ?_
  · unfold cellsP at hu
    obtain ⟨p, hp, he⟩ := List.mem_flatMap.1 hu
    simp at he
    rcases he with rfl | rfl
    · rfl
    · exact h1 p hp
  · unfold maxLen; omega
  · omega
  · intro v' w' hO' hgr hnil hat
    exact h v' w' ⟨by rw [List.length_append, cellsP_append]; exact hO', hgr, hnil, hat⟩

theorem step_append_tabO {ops : Array Oper} {oo : Oper} {a : Act} {K : Act → World → Prop} {Q : Exit → Act → World → Prop} {E : Prop} (w : World) (hgd : oo.guard = none) (s x : Operand)
    (ho : oo.op = .call { callee := .builtin .append, args := #[s, x], argTypes := #[28, 28] })
    (base : Nat) (v : Value) (us : List Pr) (b off m cx : Nat) (ns : List Pr) (hs : a.eval s = v) (hx : a.eval x = .slice (some ⟨b, off, none⟩) m cx) (hm : m = ns.length) (hO : w.ownsRow base 56 2 v us.length (cellsP us))
    (hc : ∀ i p, ns[i]? = some p → w.cell? ⟨b, off + i * 2, none⟩ = some (.string p.1) ∧ w.cell? ⟨b, off + i * 2 + 1, none⟩ = some p.2) (h1 : ∀ p ∈ ns, p.2.oneCell' = true) (hlen : us.length + ns.length ≤ 2 ^ 30) (hbase : base ≤ w.heap.size)
    (h : ∀ v' w', AppT w w' base v v' us ns → K (a.put oo.dst v') w') : if Region.wanted oo (yielded ops a.tmps) = true then Oper.wp Tryz.prog oo a w K Q else E := by
  have hw : Region.wanted oo (yielded ops a.tmps) = true := by simp [Region.wanted, hgd]
  rw [if_pos hw]
  subst hm
  obtain ⟨i, hi, hz0, hz1, hz2⟩ := info_parts Tryz.infoTab
  obtain ⟨v', w', hr, hO', hgr, hnil, hat⟩ := run_append_own_at (P := Tryz.prog) w base 28 oo.type 56 i _ 2 40 Tryz.underlying28 hi hz0 hz1 hz2 rfl (by decide) v us.length (cellsP us) hO ⟨b, off, none⟩ ns.length cx (cellsP ns) (length_cellsP ns) (pcells hc) (fun u hu => by
    unfold cellsP at hu
    obtain ⟨p, hp, he⟩ := List.mem_flatMap.1 hu
    simp at he
    rcases he with rfl | rfl
    · rfl
    · exact h1 p hp) (by unfold maxLen; omega) (by omega) hbase
  have hfin := h v' w' ⟨by rw [List.length_append, cellsP_append]; exact hO', hgr, hnil, hat⟩
  unfold Oper.wp
  simp [execOp, ho, resolve, invoke, builtin, hs, hx, hr, Result.andThen]
  exact hfin
theorem step_append_runO {ops : Array Oper} {oo : Oper} {a : Act} {K : Act → World → Prop} {Q : Exit → Act → World → Prop} {E : Prop} (w : World) (hgd : oo.guard = none) (s x : Operand)
    (ho : oo.op = .call { callee := .builtin .append, args := #[s, x], argTypes := #[54, 54] })
    (base : Nat) (v : Value) (us : List Value) (b off m cx : Nat) (ns : List Value) (hs : a.eval s = v) (hx : a.eval x = .slice (some ⟨b, off, none⟩) m cx) (hm : m = ns.length) (hO : w.ownsRow base 58 1 v us.length us)
    (hc : ∀ j u, ns[j]? = some u → w.cell? ⟨b, off + j, none⟩ = some u) (h1 : ∀ u ∈ ns, u.oneCell' = true) (hlen : us.length + ns.length ≤ 2 ^ 30) (hbase : base ≤ w.heap.size)
    (h : ∀ v' w', AppR w w' base v v' us ns → K (a.put oo.dst v') w') : if Region.wanted oo (yielded ops a.tmps) = true then Oper.wp Tryz.prog oo a w K Q else E := by
  have hw : Region.wanted oo (yielded ops a.tmps) = true := by simp [Region.wanted, hgd]
  rw [if_pos hw]
  subst hm
  obtain ⟨i, hi, hz0, hz1, hz2⟩ := info_parts Tryz.infoRun
  obtain ⟨v', w', hr, hO', hgr, hnil, hat⟩ := run_append_own_at (P := Tryz.prog) w base 54 oo.type 58 i _ 1 24 Tryz.underlying54 hi hz0 hz1 hz2 rfl (by decide) v us.length us hO ⟨b, off, none⟩ ns.length cx ns (by omega) (fun j u hu => by rw [Addr.add_mid]; exact hc j u hu) h1 (by unfold maxLen; omega) (by omega) hbase
  have hfin := h v' w' ⟨by rw [List.length_append]; exact hO', hgr, hnil, hat⟩
  unfold Oper.wp
  simp [execOp, ho, resolve, invoke, builtin, hs, hx, hr, Result.andThen]
  exact hfin

theorem ownE_empty (w : World) (base : Nat) (hb : base ≤ w.heap.size) : OwnE (w.alloc (Obj.cells #[] 61)) base w.heap.size 0 [] :=
  World.ownsRow_lit w #[] 0 hb (by decide) (by decide)
theorem ownR_empty (w : World) (base : Nat) (hb : base ≤ w.heap.size) : (w.alloc (Obj.cells #[] 58)).ownsRow base 58 1 (.slice (some ⟨w.heap.size, 0, none⟩) 0 0) 0 [] :=
  World.ownsRow_lit w #[] 0 hb (by decide) (by decide)

set_option maxHeartbeats 1000000 in
theorem clone_core (r : Rm) (w : World) (hr : r.at w) (hl : r.es.length ≤ 1048576) :
    Calls Tryz.prog 59 #[.slice (some ⟨r.b, r.off, none⟩) r.es.length r.cap] w fun e w' =>
      ∃ g cp, e = .returned (.slice (some ⟨g, 0, none⟩) r.es.length cp) ∧ OwnE w' w.heap.size g cp r.es ∧ Below w.heap.size w w' := by
  have HR : Hid (r.at w) := hr
  clear hr
  have HE : Hid (OwnE (w.alloc (Obj.cells #[] 61)) w.heap.size w.heap.size 0 []) := ownE_empty w _ (Nat.le_refl _)
  have hba : Below w.heap.size w (w.alloc (Obj.cells #[] 61)) := (Below.refl _ _).alloc (Nat.le_refl _) _
  go_enter Tryz.func59, Tryz.ntmps59
  have hnil : ∀ wx : World, (binOp .eql 33 (.slice (some ⟨r.b, r.off, none⟩) r.es.length r.cap) (.slice none 0 0)).run Tryz.prog wx = .ok (.bool false) wx := fun wx => Go.Lib.run_eql_slice_nil wx _ _ _ _ _ _ _ Tryz.underlying33
  go_wp2_with (at_builtin; refine wpList_append_entO _ rfl _ _ rfl w.heap.size w.heap.size 0 0 r.b r.off r.es.length r.cap [] r.es rfl rfl rfl rfl HE.out ?hc ?hl ?hb ?_)
  case hc => exact (HR.out.below hba).ents
  case hl => simp; omega
  case hb => simp
  intro g' cp' w' hO' hgr hat
  have hb' : Below w.heap.size w w' := hba.grown hgr (by simp) (fun j hj => by cases hj; exact Nat.le_refl _)
  have HO : Hid (OwnE w' w.heap.size g' cp' r.es) := hO'
  clear hO' hgr
  go_wp2_with fail
  go_ret
  exact ⟨g', cp', rfl, HO.out, hb'⟩
end Go.Proofs.YtlgeffinhbodeafGreat

/-
  eqRunS, eqTablet, eqTabletS, eqStore over what reads alike.
-/
namespace Go.Proofs.YtlgeffinhbodeafGreat
open Go.ChangeShapes Go.WideShapes Go.ChangeAt Go.RowKit Go.Deep
set_option linter.unusedVariables false
set_option linter.unusedSimpArgs false
set_option maxRecDepth 100000

theorem runsAt_out {w : World} {b off m : Nat} {l : List Rn} {r : Rn} (h : RunsAt w b off l) (hb : b < w.heap.size) (hr : l[m]? = some r) : (∀ n : Out w, n.u.cell? ⟨b, off + m, none⟩ = some r.u) ∧ ∀ n : Out w, InEnts n.u r.u r.es :=
  ⟨fun n => (h.below n.out hb m r hr).1, fun n => (h.below n.out hb m r hr).2⟩

set_option maxHeartbeats 2000000 in
theorem eqRunS_zero (a a' : Option Addr) (cap cap' : Nat) (w : World) :
    Calls Tryz.prog 88 #[.slice a 0 cap, .slice a' 0 cap'] w fun e w' => e = .returned (.bool true) ∧ Below w.heap.size w w' := by
  go_enter Tryz.func88, Tryz.ntmps88
  go_wp2_with fail
  go_loopw [5] (fun i wr => i = .int .i64 0 ∧ wr = w) (fun i _ => 0)
  case atStart => exact ⟨rfl, rfl⟩
  case round =>
    obtain ⟨rfl, rfl⟩ := hrel
    go_wp2_with fail
    go_ret
    exact ⟨rfl, Below.refl _ _⟩

set_option maxHeartbeats 2000000 in
theorem eqRunS_in (b off cap b' off' cap' : Nat) (l l' : List Rn) (w : World) (h : RunsAt w b off l) (h' : RunsAt w b' off' l') (hB : b < w.heap.size) (hB' : b' < w.heap.size) (he : esOf l = esOf l') (hn : l.length ≤ maxLen) :
    Calls Tryz.prog 88 #[.slice (some ⟨b, off, none⟩) l.length cap, .slice (some ⟨b', off', none⟩) l'.length cap'] w fun e w' => e = .returned (.bool true) ∧ Below w.heap.size w w' := by
  unfold maxLen at hn
  have hll : l'.length = l.length := by have := congrArg List.length he; simpa [esOf] using this.symm
  rw [hll]
  have HE : Hid (RunsAt w b off l ∧ RunsAt w b' off' l' ∧ esOf l = esOf l' ∧ l'.length = l.length) := ⟨h, h', he, hll⟩
  clear h h' he hll
  go_enter Tryz.func88, Tryz.ntmps88
  go_wp2_with fail
  go_loopw [5] (fun i wr => ∃ k : Nat, k ≤ l.length ∧ i = .int .i64 k ∧ Below w.heap.size w wr) (fun i _ => l.length - (intOf i).toNat)
  case atStart => exact ⟨0, Nat.zero_le _, rfl, Below.refl _ _⟩
  case round =>
    obtain ⟨k, hk, rfl, hb⟩ := hrel
    have hs := hb.size
    by_cases hlt : k < l.length
    · obtain ⟨r, hr⟩ : ∃ r, l[k]? = some r := ⟨_, List.getElem?_eq_getElem hlt⟩
      obtain ⟨r', hr'⟩ : ∃ r', l'[k]? = some r' := ⟨_, List.getElem?_eq_getElem (by have := HE.out.2.2.2; omega)⟩
      have hes : r'.es = r.es := by
        have h1 := congrArg (fun x => x[k]?) HE.out.2.2.1
        simp only [esOf, List.getElem?_map, hr, hr'] at h1
        simpa using h1.symm
      obtain ⟨y0, y1⟩ := runsAt_out (HE.out.1.below hb hB) (by omega) hr
      obtain ⟨z0, z1⟩ := runsAt_out (HE.out.2.1.below hb hB') (by omega) hr'
      have HY : Hid (∀ n : Out wr, InEnts n.u r.u r.es ∧ InEnts n.u r'.u r.es) := fun n => ⟨y1 n, by
        have h := z1 n
        rw [hes] at h
        exact h⟩
      clear y1 z1 hr hr' hes
      have zk : (k : Int) < (l.length : Int) := by omega
      have inh : Nonempty (Out wr) := ⟨⟨wr, Below.refl _ _⟩⟩
      go_upto_region 6 with fail
      refine wp_region_out (by kernel_rfl) (by kernel_rfl) ?_
      repeat (go_big_quiet_step ((go_at_call 113; exact Calls.out_of (eqRun_any _ _ r.es _ (HY.out _).1 (HY.out _).2))))
      refine wpQuiet_nil ?_
      rintro wy ⟨⟨wx, hby⟩, rfl⟩
      have hb2 := hb.trans (hby.mono hs)
      clear y0 z0
      go_wp2_with fail
      go_roundw
      case rel => exact ⟨k + 1, by omega, by go_num, hb2⟩
      case measure => go_light; simp [intOf]; omega
    · have zk : ¬ (k : Int) < (l.length : Int) := by omega
      go_wp2_with fail
      go_ret
      exact ⟨rfl, hb⟩

theorem InRuns.len_le {w : World} {v : Value} {rs : List Rn} (h : InRuns w v rs) : rs.length ≤ maxLen := by
  rcases h with ⟨_, _, _, rfl⟩ | ⟨b, off, cap, _, _, _, h1, h2⟩
  · simp
  · omega
theorem esOf_len {l l' : List Rn} (h : esOf l = esOf l') : l.length = l'.length := by have := congrArg List.length h; simpa [esOf] using this
theorem eqRunS_any (v v' : Value) (l l' : List Rn) (w : World) (h : InRuns w v l) (h' : InRuns w v' l') (he : esOf l = esOf l') :
    Calls Tryz.prog 88 #[v, v'] w fun e w' => e = .returned (.bool true) ∧ Below w.heap.size w w' := by
  have hm := h.len_le
  have hll := esOf_len he
  rcases h with ⟨a, cap, rfl, rfl⟩ | ⟨b, off, cap, rfl, hE, hB, hlen, hcap⟩
  · rcases h' with ⟨a', cap', rfl, _⟩ | ⟨b', off', cap', rfl, _, _, _, _⟩
    · exact eqRunS_zero _ _ _ _ w
    · rw [← hll]; exact eqRunS_zero _ _ _ _ w
  · rcases h' with ⟨a', cap', rfl, rfl⟩ | ⟨b', off', cap', rfl, hE', hB', hlen', hcap'⟩
    · rw [hll]; exact eqRunS_zero _ _ _ _ w
    · exact eqRunS_in b off cap b' off' cap' l l' w hE hE' hB hB' he hm

set_option maxHeartbeats 2000000 in
theorem eqTablet_any (lo : ByteArray) (v v' : Value) (l l' : List Rn) (w : World) (h : InRuns w v l) (h' : InRuns w v' l') (he : esOf l = esOf l') :
    Calls Tryz.prog 65 #[.agg #[.string lo, v], .agg #[.string lo, v']] w fun e w' => e = .returned (.bool true) ∧ Below w.heap.size w w' := by
  have HE : Hid (InRuns w v l ∧ InRuns w v' l' ∧ esOf l = esOf l') := ⟨h, h', he⟩
  have hu := h.ucells
  have hu' := h'.ucells
  clear h h' he
  go_enter Tryz.func65, Tryz.ntmps65
  go_wp2_with fail
  have k0 : Below w.heap.size w ((w.alloc (Obj.cells #[.string lo, v] 56)).alloc (Obj.cells #[.string lo, v'] 56)) := ((Below.refl _ _).alloc (Nat.le_refl _) _).alloc (by simp) _
  refine (eqRunS_any v v' l l' _ (HE.out.1.below k0) (HE.out.2.1.below k0) HE.out.2.2).mono ?_
  rintro e w1 ⟨rfl, hb1⟩
  go_wp2_with fail
  go_ret
  exact ⟨rfl, k0.trans (hb1.mono (by simp; omega))⟩

theorem tabsAt_out {w : World} {b off m : Nat} {l : List Tn} {r : Tn} (h : TabsAt w b off l) (hb : b < w.heap.size) (hr : l[m]? = some r) : (∀ n : Out w, n.u.cell? ⟨b, off + m * 2, none⟩ = some (.string r.lo)) ∧ (∀ n : Out w, n.u.cell? ⟨b, off + m * 2 + 1, none⟩ = some r.u) ∧ ∀ n : Out w, InRuns n.u r.u r.rs :=
  ⟨fun n => (h.below n.out hb m r hr).1, fun n => (h.below n.out hb m r hr).2.1, fun n => (h.below n.out hb m r hr).2.2⟩
/-- What tablets read as. -/
def vwT (ts : List Tn) : List (ByteArray × List (List Ent)) := ts.map fun t => (t.lo, esOf t.rs)
theorem vwT_len {l l' : List Tn} (h : vwT l = vwT l') : l.length = l'.length := by have := congrArg List.length h; simpa [vwT] using this

set_option maxHeartbeats 2000000 in
theorem eqTabletS_zero (a a' : Option Addr) (cap cap' : Nat) (w : World) :
    Calls Tryz.prog 34 #[.slice a 0 cap, .slice a' 0 cap'] w fun e w' => e = .returned (.bool true) ∧ Below w.heap.size w w' := by
  go_enter Tryz.func34, Tryz.ntmps34
  go_wp2_with fail
  go_loopw [5] (fun i wr => i = .int .i64 0 ∧ wr = w) (fun i _ => 0)
  case atStart => exact ⟨rfl, rfl⟩
  case round =>
    obtain ⟨rfl, rfl⟩ := hrel
    go_wp2_with fail
    go_ret
    exact ⟨rfl, Below.refl _ _⟩

set_option maxHeartbeats 2000000 in
theorem eqTabletS_in (b off cap b' off' cap' : Nat) (l l' : List Tn) (w : World) (h : TabsAt w b off l) (h' : TabsAt w b' off' l') (hB : b < w.heap.size) (hB' : b' < w.heap.size) (he : vwT l = vwT l') (hn : l.length ≤ maxLen) :
    Calls Tryz.prog 34 #[.slice (some ⟨b, off, none⟩) l.length cap, .slice (some ⟨b', off', none⟩) l'.length cap'] w fun e w' => e = .returned (.bool true) ∧ Below w.heap.size w w' := by
  unfold maxLen at hn
  have hll : l'.length = l.length := (vwT_len he).symm
  rw [hll]
  have HE : Hid (TabsAt w b off l ∧ TabsAt w b' off' l' ∧ vwT l = vwT l' ∧ l'.length = l.length) := ⟨h, h', he, hll⟩
  clear h h' he hll
  go_enter Tryz.func34, Tryz.ntmps34
  go_wp2_with fail
  go_loopw [5] (fun i wr => ∃ k : Nat, k ≤ l.length ∧ i = .int .i64 k ∧ Below w.heap.size w wr) (fun i _ => l.length - (intOf i).toNat)
  case atStart => exact ⟨0, Nat.zero_le _, rfl, Below.refl _ _⟩
  case round =>
    obtain ⟨k, hk, rfl, hb⟩ := hrel
    have hs := hb.size
    by_cases hlt : k < l.length
    · obtain ⟨r, hr⟩ : ∃ r, l[k]? = some r := ⟨_, List.getElem?_eq_getElem hlt⟩
      obtain ⟨r', hr'⟩ : ∃ r', l'[k]? = some r' := ⟨_, List.getElem?_eq_getElem (by have := HE.out.2.2.2; omega)⟩
      obtain ⟨hlo, hes⟩ : r'.lo = r.lo ∧ esOf r.rs = esOf r'.rs := by
        have h1 := congrArg (fun x => x[k]?) HE.out.2.2.1
        simp only [vwT, List.getElem?_map, hr, hr'] at h1
        simp at h1
        exact ⟨h1.1.symm, h1.2⟩
      obtain ⟨y0, y0', y1⟩ := tabsAt_out (HE.out.1.below hb hB) (by omega) hr
      obtain ⟨z0, z0', z1⟩ := tabsAt_out (HE.out.2.1.below hb hB') (by omega) hr'
      rw [hlo] at z0
      have HY : Hid (esOf r.rs = esOf r'.rs ∧ ∀ n : Out wr, InRuns n.u r.u r.rs ∧ InRuns n.u r'.u r'.rs) := ⟨hes, fun n => ⟨y1 n, z1 n⟩⟩
      clear y1 z1 hr hr' hes hlo
      have zk : (k : Int) < (l.length : Int) := by omega
      have inh : Nonempty (Out wr) := ⟨⟨wr, Below.refl _ _⟩⟩
      go_upto_region 6 with fail
      refine wp_region_out (by kernel_rfl) (by kernel_rfl) ?_
      repeat (go_big_quiet_step ((go_at_call 65; exact Calls.out_of (eqTablet_any r.lo _ _ r.rs r'.rs _ (HY.out.2 _).1 (HY.out.2 _).2 HY.out.1))))
      refine wpQuiet_nil ?_
      rintro wy ⟨⟨wx, hby⟩, rfl⟩
      have hb2 := hb.trans (hby.mono hs)
      clear y0 y0' z0 z0'
      go_wp2_with fail
      go_roundw
      case rel => exact ⟨k + 1, by omega, by go_num, hb2⟩
      case measure => go_light; simp [intOf]; omega
    · have zk : ¬ (k : Int) < (l.length : Int) := by omega
      go_wp2_with fail
      go_ret
      exact ⟨rfl, hb⟩

theorem eqTabletS_any (v v' : Value) (l l' : List Tn) (w : World) (h : InTabs w v l) (h' : InTabs w v' l') (he : vwT l = vwT l') :
    Calls Tryz.prog 34 #[v, v'] w fun e w' => e = .returned (.bool true) ∧ Below w.heap.size w w' := by
  have hll := vwT_len he
  rcases h with ⟨a, cap, rfl, rfl⟩ | ⟨b, off, cap, rfl, hE, hB, hlen, hcap⟩
  · rcases h' with ⟨a', cap', rfl, _⟩ | ⟨b', off', cap', rfl, _, _, _, _⟩
    · exact eqTabletS_zero _ _ _ _ w
    · rw [← hll]; exact eqTabletS_zero _ _ _ _ w
  · rcases h' with ⟨a', cap', rfl, rfl⟩ | ⟨b', off', cap', rfl, hE', hB', hlen', hcap'⟩
    · rw [hll]; exact eqTabletS_zero _ _ _ _ w
    · exact eqTabletS_in b off cap b' off' cap' l l' w hE hE' hB hB' he (by omega)

set_option maxHeartbeats 2000000 in
theorem eqStore_any (v v' : Value) (l l' : List Tn) (w : World) (h : InTabs w v l) (h' : InTabs w v' l') (he : vwT l = vwT l') :
    Calls Tryz.prog 11 #[.agg #[v], .agg #[v']] w fun e w' => e = .returned (.bool true) ∧ Below w.heap.size w w' := by
  have HE : Hid (InTabs w v l ∧ InTabs w v' l' ∧ vwT l = vwT l') := ⟨h, h', he⟩
  have hu := h.ucells
  have hu' := h'.ucells
  clear h h' he
  go_enter Tryz.func11, Tryz.ntmps11
  go_wp2_with fail
  have k0 : Below w.heap.size w ((w.alloc (Obj.cells #[v] 30)).alloc (Obj.cells #[v'] 30)) := ((Below.refl _ _).alloc (Nat.le_refl _) _).alloc (by simp) _
  refine (eqTabletS_any v v' l l' _ (HE.out.1.below k0) (HE.out.2.1.below k0) HE.out.2.2).mono ?_
  rintro e w1 ⟨rfl, hb1⟩
  go_wp2_with fail
  go_ret
  exact ⟨rfl, k0.trans (hb1.mono (by simp; omega))⟩
end Go.Proofs.YtlgeffinhbodeafGreat

/-
  Stores that came back: of the call's own all through; marks laid.
-/
namespace Go.Proofs.YtlgeffinhbodeafGreat
open Go.ChangeShapes Go.WideShapes Go.ChangeAt Go.RowKit Go.Deep
set_option linter.unusedVariables false
set_option linter.unusedSimpArgs false
set_option maxRecDepth 100000

/-- A run: its slice, its entries, and the block that they lie in, if there are any. -/
structure Rw where
  u : Value
  es : List Ent
  k : Option Nat
def OwnK (w : World) (base : Nat) (r : Rw) : Prop :=
  (r.k = none ∧ r.es = [] ∧ ∃ a c, r.u = .slice a 0 c) ∨ ∃ g cp, r.k = some g ∧ r.u = .slice (some ⟨g, 0, none⟩) r.es.length cp ∧ OwnE w base g cp r.es
theorem OwnK.ucells {w : World} {base : Nat} {r : Rw} (h : OwnK w base r) : r.u.cells = #[r.u] := by
  rcases h with ⟨_, _, a, c, h⟩ | ⟨g, cp, _, h, _⟩ <;> rw [h] <;> rfl
theorem OwnK.ins {w : World} {base : Nat} {r : Rw} (h : OwnK w base r) : InEnts w r.u r.es := by
  rcases h with ⟨_, h1, a, c, h⟩ | ⟨g, cp, _, h, hO⟩
  · exact .inl ⟨a, c, h, h1⟩
  · rw [h]; exact InEnts.own hO hO.caps.1 hO.caps.2
theorem OwnK.kept {w w' : World} {base : Nat} {r : Rw} {row : Option Nat} (h : OwnK w base r) (hg : w.grownBy w' row) (hne : ∀ g, r.k = some g → row ≠ some g) : OwnK w' base r := by
  rcases h with h | ⟨g, cp, hk, hu, hO⟩
  · exact .inl h
  · exact .inr ⟨g, cp, hk, hu, World.ownsRow.kept hO hg (.inr (fun q => hne g hk q.symm))⟩
theorem OwnK.below {w w' : World} {base : Nat} {r : Rw} (h : OwnK w base r) (hb : Below w.heap.size w w') : OwnK w' base r := by
  rcases h with h | ⟨g, cp, hk, hu, hO⟩
  · exact .inl h
  · exact .inr ⟨g, cp, hk, hu, hO.below hb hO.lt.2⟩
theorem OwnK.key {w : World} {base : Nat} {r : Rw} (h : OwnK w base r) {g : Nat} (hg : r.k = some g) : base ≤ g ∧ g < w.heap.size := by
  rcases h with ⟨h, _⟩ | ⟨g', cp, hk, hu, hO⟩
  · rw [h] at hg; cases hg
  · rw [hk] at hg; cases hg; exact hO.lt
theorem OwnK.chg {S : Nat → Prop} {w w' : World} {base : Nat} {r : Rw} (h : OwnK w base r) (hb : Chg S w w') (hne : ∀ g, r.k = some g → ¬ S g) : OwnK w' base r := by
  rcases h with h | ⟨g, cp, hk, hu, hO⟩
  · exact .inl h
  · exact .inr ⟨g, cp, hk, hu, own_chg hO hb (fun k q => by have : g = k := Option.some.inj q; subst this; exact hne g hk)⟩

theorem markK (base : Nat) (r : Rw) (a : Int) (w : World) (h : OwnK w base r) (h0 : 0 < a) (h1 : a ≤ 2 ^ 30) (hn : r.es.length ≤ 1048576) :
    Calls Tryz.prog 14 #[r.u, .int .i64 a] w fun e w' =>
      ∃ R', e = .returned (.int .i64 (a + r.es.length * 6)) ∧ OwnK w' base ⟨r.u, R', r.k⟩ ∧ R'.length = r.es.length ∧ marked a R' R'.length ∧ w.grownBy w' r.k := by
  obtain ⟨u, es, k⟩ := r
  rcases h with ⟨hk, he, x, c, hu⟩ | ⟨g, cp, hk, hu, hO⟩
  · simp only at hk he hu ⊢
    subst hk he hu
    refine (markEntryS_zero x c a w).mono ?_
    rintro e w' ⟨rfl, hb⟩
    exact ⟨[], by simp, .inl ⟨rfl, rfl, x, c, rfl⟩, rfl, fun j hj => by simp at hj, grown_of_below hb _⟩
  · simp only at hk hu hO hn ⊢
    subst hk hu
    refine (markEntryS_core base g cp es a w hO h0 h1 hn).mono ?_
    rintro e w' ⟨fs, rfl, hO', hl, hm, hg⟩
    exact ⟨fs, rfl, .inr ⟨g, cp, rfl, by simp only; rw [hl], hO'⟩, hl, by rw [hl]; exact hm, hg⟩
theorem heldK (base : Nat) (r : Rw) (a : Int) (w : World) (h : OwnK w base r) (hm : marked a r.es r.es.length) (h0 : 0 < a) (h1 : a ≤ 2 ^ 30) (hn : r.es.length ≤ 1048576) :
    Calls Tryz.prog 89 #[r.u, .int .i64 a] w fun e w' => e = .returned (.int .i64 (a + r.es.length * 6)) ∧ Below w.heap.size w w' := by
  obtain ⟨u, es, k⟩ := r
  rcases h with ⟨hk, he, x, c, hu⟩ | ⟨g, cp, hk, hu, hO⟩
  · simp only at hk he hu ⊢
    subst hk he hu
    refine (heldEntryS_zero x c a w).mono ?_
    rintro e w' ⟨rfl, hb⟩
    exact ⟨by simp, hb⟩
  · simp only at hk hu hO hm hn ⊢
    subst hk hu
    exact heldEntryS_core g 0 cp es a w hO.at hm hO.lt.2 h0 h1 hn

/-- The row of a tablet's runs. -/
def OwnRow (w : World) (base : Nat) (v : Value) (rs : List Rw) : Prop :=
  (rs = [] ∧ ∃ a c, v = .slice a 0 c) ∨ ∃ g cp, v = .slice (some ⟨g, 0, none⟩) rs.length cp ∧ w.ownsRow base 58 1 (.slice (some ⟨g, 0, none⟩) rs.length cp) rs.length (rs.map Rw.u)
theorem OwnRow.ucells {w : World} {base : Nat} {v : Value} {rs : List Rw} (h : OwnRow w base v rs) : v.cells = #[v] := by
  rcases h with ⟨_, a, c, h⟩ | ⟨g, cp, h, _⟩ <;> rw [h] <;> rfl
theorem OwnRow.caps {w : World} {base : Nat} {e s : Nat} {g n cp : Nat} {xs : List Value} (h : w.ownsRow base e s (.slice (some ⟨g, 0, none⟩) n cp) n xs) : n ≤ cp ∧ cp ≤ maxLen := by
  rcases h.2 with ⟨h0, _⟩ | ⟨g', cap', cur, hv, _, _, hn, hcap, _, _⟩
  · cases h0
  · simp only [Value.slice.injEq, Option.some.injEq, Addr.mk.injEq, and_true, true_and] at hv
    obtain ⟨rfl, rfl⟩ := hv
    exact ⟨hn, hcap⟩
def Rw.rn (r : Rw) : Rn := ⟨r.u, r.es⟩
theorem OwnRow.ins {w : World} {base : Nat} {v : Value} {rs : List Rw} (h : OwnRow w base v rs) (hk : ∀ r ∈ rs, OwnK w base r) : InRuns w v (rs.map Rw.rn) := by
  rcases h with ⟨rfl, a, c, h⟩ | ⟨g, cp, rfl, hO⟩
  · exact .inl ⟨a, c, h, rfl⟩
  · have hc := OwnRow.caps hO
    refine .inr ⟨g, 0, cp, by simp, fun i r hi => ?_, (World.ownsRow.lt hO g rfl).2, by simpa using hc.1, hc.2⟩
    rw [List.getElem?_map] at hi
    cases hp : rs[i]? with
    | none => rw [hp] at hi; cases hi
    | some p =>
      rw [hp] at hi
      simp at hi
      subst hi
      refine ⟨?_, (hk p (List.mem_of_getElem? hp)).ins⟩
      have hl := (List.getElem?_eq_some_iff.1 hp).1
      have := World.ownsRow.cellAt hO i (by omega)
      rw [List.getElem?_map, hp] at this
      rw [Nat.zero_add]
      exact this
theorem OwnRow.kept {w w' : World} {base : Nat} {v : Value} {rs : List Rw} {row : Option Nat} (h : OwnRow w base v rs) (hg : w.grownBy w' row) (hne : ∀ g, v.ownBlock = some g → rs ≠ [] → row ≠ some g) : OwnRow w' base v rs := by
  rcases h with h | ⟨g, cp, hv, hO⟩
  · exact .inl h
  · by_cases hr : rs = []
    · subst hr; exact .inl ⟨rfl, _, _, hv⟩
    · exact .inr ⟨g, cp, hv, World.ownsRow.kept hO hg (.inr (fun q => hne g (by rw [hv]; rfl) hr q.symm))⟩
theorem OwnRow.below {w w' : World} {base : Nat} {v : Value} {rs : List Rw} (h : OwnRow w base v rs) (hb : Below w.heap.size w w') : OwnRow w' base v rs := by
  rcases h with h | ⟨g, cp, hv, hO⟩
  · exact .inl h
  · refine .inr ⟨g, cp, hv, World.ownsRow.kept hO (grown_of_below hb none) (.inr (fun q => by cases q))⟩
theorem OwnRow.same {w : World} {base : Nat} {v : Value} {rs rs' : List Rw} (h : OwnRow w base v rs) (hu : rs'.map Rw.u = rs.map Rw.u) : OwnRow w base v rs' := by
  have hl : rs'.length = rs.length := by have := congrArg List.length hu; simpa using this
  rcases h with ⟨rfl, h⟩ | ⟨g, cp, hv, hO⟩
  · refine .inl ⟨List.eq_nil_of_length_eq_zero (by simpa using hl), h⟩
  · exact .inr ⟨g, cp, by rw [hl]; exact hv, by rw [hl, hu]; exact hO⟩

def totW : List Rw → Nat
  | [] => 0
  | r :: rs => r.es.length + totW rs
theorem totW_append : ∀ (a b : List Rw), totW (a ++ b) = totW a + totW b
  | [], b => by simp [totW]
  | r :: a, b => by simp [totW, totW_append a b]; omega
theorem totW_take {rs : List Rw} {k : Nat} {r : Rw} (h : rs[k]? = some r) : totW (rs.take (k + 1)) = totW (rs.take k) + r.es.length := by
  rw [List.take_add_one, h, totW_append]; simp [totW]
theorem totW_le (rs : List Rw) (k : Nat) : totW (rs.take k) ≤ totW rs := by
  have h := totW_append (rs.take k) (rs.drop k)
  rw [List.take_append_drop] at h
  omega
theorem totW_mem {rs : List Rw} {k : Nat} {r : Rw} (h : rs[k]? = some r) : r.es.length ≤ totW rs := by
  have h1 := totW_take h
  have h2 := totW_le rs (k + 1)
  omega
/-- The shape of runs: their slices, blocks and lengths. -/
def shp (r : Rw) : Value × Option Nat × Nat := (r.u, r.k, r.es.length)
theorem shp_u {a b : List Rw} (h : a.map shp = b.map shp) : a.map Rw.u = b.map Rw.u := by
  have := congrArg (List.map Prod.fst) h
  simpa [List.map_map, Function.comp_def, shp] using this
theorem shp_tot : ∀ {a b : List Rw}, a.map shp = b.map shp → totW a = totW b
  | [], [], _ => rfl
  | [], _ :: _, h => by simp at h
  | _ :: _, [], h => by simp at h
  | x :: a, y :: b, h => by
    simp [shp] at h
    have := shp_tot (a := a) (b := b) (by simpa [shp] using h.2)
    simp [totW, this, h.1.2.2]
/-- Runs marked, from 'a' on. -/
def MarkedR (a : Int) (rs : List Rw) : Prop := ∀ i r, rs[i]? = some r → marked (a + totW (rs.take i) * 6) r.es r.es.length
def Apart (rs : List Rw) : Prop := rs.Pairwise fun a b => ∀ k, a.k = some k → b.k ≠ some k
def KeysOf (rs : List Rw) (k : Nat) : Prop := ∃ r ∈ rs, r.k = some k

theorem row_ne {w : World} {base : Nat} {v : Value} {rs : List Rw} {r : Rw} {base' : Nat} (h : OwnRow w base v rs) (hk : OwnK w base' r) : ∀ g, v.ownBlock = some g → rs ≠ [] → r.k ≠ some g := by
  intro g hg hr hkg
  rcases h with ⟨h, _⟩ | ⟨g', cp, rfl, hO⟩
  · exact hr h
  · rcases hk with ⟨h, _⟩ | ⟨g2, cp2, h1, h2, hE⟩
    · rw [h] at hkg; cases hkg
    · rw [h1] at hkg
      have := own_apart hO hE (by decide) g' rfl
      have e1 : g' = g := Option.some.inj hg
      have e2 : g2 = g := Option.some.inj hkg
      subst e1 e2
      exact this rfl

set_option maxHeartbeats 2000000 in
theorem markRunS_gen (base : Nat) (v : Value) (rs : List Rw) (a : Int) (w : World) (hrow : OwnRow w base v rs) (hks : ∀ r ∈ rs, OwnK w base r) (hap : Apart rs) (h0 : 0 < a) (h1 : a + totW rs * 6 ≤ 2 ^ 30) (hn : totW rs ≤ 1048576) (hl : rs.length ≤ 1048576) :
    Calls Tryz.prog 66 #[v, .int .i64 a] w fun e w' =>
      ∃ rs' : List Rw, e = .returned (.int .i64 (a + totW rs * 6)) ∧ rs'.map shp = rs.map shp ∧ OwnRow w' base v rs' ∧ (∀ r ∈ rs', OwnK w' base r) ∧ MarkedR a rs' ∧ Chg (KeysOf rs) w w' := by
  have HA : Hid (OwnRow w base v rs ∧ (∀ r ∈ rs, OwnK w base r) ∧ Apart rs) := ⟨hrow, hks, hap⟩
  have hvl : ∃ ad c, v = .slice ad rs.length c := by
    rcases hrow with ⟨rfl, a, c, h⟩ | ⟨g, cp, h, _⟩
    · exact ⟨a, c, h⟩
    · exact ⟨_, cp, h⟩
  obtain ⟨ad, vc, rfl⟩ := hvl
  clear hrow hks hap
  go_enter Tryz.func66, Tryz.ntmps66
  go_wp2_with fail
  go_loopw [1, 5] (fun c i wr => ∃ (m : Nat) (b : Int) (done : List Rw), m ≤ rs.length ∧ i = .int .i64 m ∧ c = .int .i64 b ∧ b = a + totW (rs.take m) * 6 ∧ done.length = m ∧ done.map shp = (rs.take m).map shp ∧ MarkedR a done ∧ OwnRow wr base (.slice ad rs.length vc) (done ++ rs.drop m) ∧ (∀ r ∈ done ++ rs.drop m, OwnK wr base r) ∧ Chg (KeysOf rs) w wr) (fun _ i _ => rs.length - (intOf i).toNat)
  case atStart => exact ⟨0, a, [], Nat.zero_le _, rfl, rfl, by simp [totW], rfl, rfl, fun i r h => by simp at h, HA.out.1, HA.out.2.1, Chg.refl _ _⟩
  case round =>
    obtain ⟨m, b, done, hm, rfl, rfl, hb, hdl, hds, hmk, hR, hK, hC⟩ := hrel
    have HR : Hid (b = a + totW (rs.take m) * 6 ∧ done.length = m ∧ done.map shp = (rs.take m).map shp ∧ MarkedR a done ∧ OwnRow wr base (.slice ad rs.length vc) (done ++ rs.drop m) ∧ (∀ r ∈ done ++ rs.drop m, OwnK wr base r) ∧ Chg (KeysOf rs) w wr) := ⟨hb, hdl, hds, hmk, hR, hK, hC⟩
    have hb0 : 0 < b := by omega
    have hb1 : b ≤ 2 ^ 30 := by have := totW_le rs m; omega
    clear hb hdl hds hmk hR hK hC
    by_cases hlt : m < rs.length
    · obtain ⟨r, hr⟩ : ∃ r, rs[m]? = some r := ⟨_, List.getElem?_eq_getElem hlt⟩
      have hdr : rs.drop m = r :: rs.drop (m + 1) := by
        obtain ⟨h1, h2⟩ := List.getElem?_eq_some_iff.1 hr
        rw [← h2]; exact List.drop_eq_getElem_cons h1
      obtain ⟨g, hg, c0⟩ : ∃ g, ad = some ⟨g, 0, none⟩ ∧ wr.cell? ⟨g, m, none⟩ = some r.u := by
        rcases HR.out.2.2.2.2.1 with ⟨h, _⟩ | ⟨g, cp, hv, hO⟩
        · rw [hdr] at h; simp at h
        · simp only [Value.slice.injEq] at hv
          refine ⟨g, hv.1, ?_⟩
          have := World.ownsRow.cellAt hO m (by have := HR.out.2.1; simp; omega)
          rw [List.getElem?_map, List.getElem?_append_right (by rw [HR.out.2.1]; exact Nat.le_refl _), HR.out.2.1, Nat.sub_self, hdr] at this
          exact this
      subst hg
      have hru : r.u.cells = #[r.u] := (HR.out.2.2.2.2.2.1 r (by rw [hdr]; simp)).ucells
      have HD : Hid (rs[m]? = some r ∧ rs.drop m = r :: rs.drop (m + 1)) := ⟨hr, hdr⟩
      have hrl : r.es.length ≤ 1048576 := by have := totW_mem hr; omega
      clear hr hdr
      have zm : (m : Int) < (rs.length : Int) := by omega
      go_wp2_with fail
      refine (markK base r b _ (HR.out.2.2.2.2.2.1 r (by rw [HD.out.2]; simp)) hb0 hb1 hrl).mono ?_
      rintro e w1 ⟨R', rfl, hK1, hl1, hm1, hg1⟩
      have HN : Hid (∃ done' : List Rw, done'.length = m + 1 ∧ done'.map shp = (rs.take (m + 1)).map shp ∧ MarkedR a done' ∧ OwnRow w1 base (.slice (some ⟨g, 0, none⟩) rs.length vc) (done' ++ rs.drop (m + 1)) ∧ (∀ r ∈ done' ++ rs.drop (m + 1), OwnK w1 base r) ∧ Chg (KeysOf rs) w w1) := by
        obtain ⟨q1, q2, q3, q4, q5, q6, q7⟩ := HR.out
        have hrm := List.mem_of_getElem? HD.out.1
        have hap : ∀ x ∈ done ++ rs.drop (m + 1), ∀ k, x.k = some k → r.k ≠ some k := by
          intro x hx k hxk hrk
          have hps : (rs.take m ++ r :: rs.drop (m + 1)).Pairwise fun a b => ∀ k, a.k = some k → b.k ≠ some k := by
            have h3 : rs.take m ++ rs.drop m = rs := List.take_append_drop m rs
            rw [HD.out.2] at h3
            rw [h3]; exact HA.out.2.2
          rcases List.mem_append.1 hx with hx | hx
          · obtain ⟨i, hi⟩ := List.getElem?_of_mem hx
            have e1 := congrArg (fun l => l[i]?) q3
            simp only [List.getElem?_map, hi] at e1
            cases h2 : (rs.take m)[i]? with
            | none => rw [h2] at e1; simp at e1
            | some y =>
              rw [h2] at e1
              simp [shp] at e1
              have h4 := (List.pairwise_append.1 hps).2.2 y (List.mem_of_getElem? h2) r (by simp)
              exact h4 k (by rw [← e1.2.1]; exact hxk) hrk
          · have h4 := (List.pairwise_cons.1 (List.pairwise_append.1 hps).2.1).1 x hx
            exact h4 k hrk hxk
        refine ⟨done ++ [⟨r.u, R', r.k⟩], by simp [q2], ?_, ?_, ?_, ?_, ?_⟩
        · rw [List.take_add_one, HD.out.1, List.map_append, List.map_append, q3]
          simp [shp, hl1]
        · intro i x hx
          by_cases hi : i < done.length
          · rw [List.getElem?_append_left hi] at hx
            have := q4 i x hx
            rw [List.take_append_of_le_length (by omega)]
            exact this
          · rw [List.getElem?_append_right (by omega)] at hx
            have h5 : i - done.length = 0 := by
              have := (List.getElem?_eq_some_iff.1 hx).1
              simp at this; omega
            rw [h5] at hx
            simp at hx
            subst hx
            have h6 : i = done.length := by omega
            subst h6
            rw [List.take_append_of_le_length (Nat.le_refl _), List.take_of_length_le (Nat.le_refl _), shp_tot q3, ← q1]
            exact hm1
        · have hsame : (done ++ [Rw.mk r.u R' r.k] ++ rs.drop (m + 1)).map Rw.u = (done ++ rs.drop m).map Rw.u := by rw [HD.out.2]; simp
          refine (q5.kept hg1 (fun g' hg' hne hk' => ?_)).same hsame
          exact row_ne q5 (q6 r (by rw [HD.out.2]; simp)) g' hg' hne hk'
        · intro x hx
          rw [List.append_assoc] at hx
          rcases List.mem_append.1 hx with hx | hx
          · exact (q6 x (List.mem_append_left _ hx)).kept hg1 (fun k hk q => hap x (List.mem_append_left _ hx) k hk q)
          · rcases List.mem_append.1 hx with hx | hx
            · simp at hx
              subst hx
              exact hK1
            · exact (q6 x (by rw [HD.out.2]; exact List.mem_append_right _ (List.mem_cons_of_mem _ hx))).kept hg1 (fun k hk q => hap x (List.mem_append_right _ hx) k hk q)
        · exact q7.trans (Chg.of_grown hg1 (fun k hk => ⟨r, hrm, hk⟩))
      have HB : Hid (b + (r.es.length : Int) * 6 = a + totW (rs.take (m + 1)) * 6) := by
        have h2 := totW_take HD.out.1
        have h3 := HR.out.1
        show b + (r.es.length : Int) * 6 = a + totW (rs.take (m + 1)) * 6
        omega
      clear hK1 hl1 hm1 hg1 c0
      go_wp2_with fail
      go_roundw
      case rel =>
        go_light
        obtain ⟨d', a1, a2, a3, a4, a5, a6⟩ := HN.out
        exact ⟨m + 1, b + r.es.length * 6, d', by omega, by go_num, rfl, HB.out, a1, a2, a3, a4, a5, a6⟩
      case measure => go_light; simp [intOf]; omega
    · have zm : ¬ (m : Int) < (rs.length : Int) := by omega
      have HF : Hid (b = a + totW rs * 6 ∧ done.map shp = rs.map shp ∧ MarkedR a done ∧ OwnRow wr base (.slice ad rs.length vc) done ∧ (∀ r ∈ done, OwnK wr base r) ∧ Chg (KeysOf rs) w wr) := by
        obtain ⟨q1, q2, q3, q4, q5, q6, q7⟩ := HR.out
        rw [List.take_of_length_le (by omega)] at q1 q3
        rw [List.drop_eq_nil_of_le (by omega), List.append_nil] at q5 q6
        exact ⟨q1, q3, q4, q5, q6, q7⟩
      go_wp2_with fail
      go_ret
      exact ⟨by rw [HF.out.1]; rfl, done, HF.out.2.1, HF.out.2.2.2.1, HF.out.2.2.2.2.1, HF.out.2.2.1, HF.out.2.2.2.2.2⟩
end Go.Proofs.YtlgeffinhbodeafGreat

