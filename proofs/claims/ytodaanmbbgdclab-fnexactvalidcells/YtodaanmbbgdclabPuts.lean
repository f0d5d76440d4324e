/-
  The put of a cell; spec.l3Puts.
-/
import Derived.Test.YtodaanmbbgdclabCel
import Derived.Test.YtodaanmbbgdclabAppE
import Derived.Test.YtodaanmbbgdclabChg
import Derived.Deep.RegionLaw
import Derived.Deep.AppendLies
namespace Go.Proofs.Ytodaanmbbgdclab
open Go.ChangeShapes Go.WideShapes Go.ChangeAt Go.RowKit Go.Deep
set_option linter.unusedVariables false
set_option linter.unusedSimpArgs false
set_option maxRecDepth 100000

theorem ent_boxP (w : World) (e : Ent) : EntsAt (w.alloc (Obj.cells #[.string e.row, .string e.fam, .string e.qual, .int .u64 e.ts, .int .i64 e.kind, .string e.val] 49)) w.heap.size 0 [e] := by
  intro j y hy
  obtain rfl : j = 0 := by
    have := (List.getElem?_eq_some_iff.1 hy).1
    simpa using this
  simp at hy
  subst hy
  simp
/-- The put of a cell. -/
def putE (x : Ent) : Ent := { x with kind := 0 }
set_option maxHeartbeats 400000 in
theorem specPut_any (e : Ent) (w : World) :
    Calls Try.prog 51 #[.agg #[.string e.row, .string e.fam, .string e.qual, .int .u64 e.ts, .string e.val]] w fun r w' => r = .returned (putE e).v ∧ Below w.heap.size w w' := by
  go_enter Try.func51, Try.ntmps51
  go_wp2
  refine bodyPost_ret (v := (putE e).v) (by simp [results, Try.results51, go_sem, putE]) rfl ⟨rfl, ?_⟩
  exact ((Below.refl _ _).alloc (Nat.le_refl _) _).alloc (by simp) _
set_option maxHeartbeats 400000 in
theorem implPut_any (e : Ent) (w : World) :
    Calls Try.prog 33 #[.agg #[.string e.row, .string e.fam, .string e.qual, .int .u64 e.ts, .string e.val]] w fun r w' => r = .returned (putE e).v ∧ Below w.heap.size w w' := by
  go_enter Try.func33, Try.ntmps33
  go_wp2
  refine bodyPost_ret (v := (putE e).v) (by simp [results, Try.results33, go_sem, putE]) rfl ⟨rfl, ?_⟩
  exact ((Below.refl _ _).alloc (Nat.le_refl _) _).alloc (by simp) _

/-- One entry appended, at a step of a region that draws. -/
theorem step_append_ent {ops : Array Oper} {o : Oper} {a : Act} {K : Act → World → Prop} {Q : Exit → Act → World → Prop} {E : Prop} (w : World) (hgd : o.guard = none) (s x : Operand)
    (ho : o.op = .call { callee := .builtin .append, args := #[s, x], argTypes := #[27, 27] })
    (base g cp n blk : Nat) (fs : List Ent) (e : Ent) (hn : n = fs.length) (hs : a.eval s = .slice (some ⟨g, 0, none⟩) n cp) (hx : a.eval x = .slice (some ⟨blk, 0, none⟩) 1 1) (hO : OwnE w base g cp fs)
    (hc : EntsAt w blk 0 [e]) (hlen : fs.length ≤ 2 ^ 30) (hbase : base ≤ w.heap.size)
    (h : ∀ g' cp' w', OwnE w' base g' cp' (fs ++ [e]) → w.grownBy w' (some g) → (g = g' ∨ g' = w.heap.size) → K (a.put o.dst (.slice (some ⟨g', 0, none⟩) (n + 1) cp')) w') : if Region.wanted o (yielded ops a.tmps) = true then Oper.wp Try.prog o a w K Q else E := by
  subst hn
  obtain ⟨i, hi, hz0, hz1, hz2⟩ := info_parts Try.infoEnt
  obtain ⟨c0, c1, c2, c3, c4, c5⟩ := hc 0 e rfl
  refine step_append_lies w hgd s x 27 ho base 49 i _ 6 80 Try.underlying27 hi hz0 hz1 hz2 rfl (by decide) (.slice (some ⟨g, 0, none⟩) fs.length cp) fs.length (cellsE fs) hs hO ⟨blk, 0, none⟩ 1 1 (cellsE [e]) hx rfl ?_ ?_ (by decide) ?_ ?_ hbase w.heap.size rfl ?_
  · intro j u hu
    have hj : j < 6 := by
      have := (List.getElem?_eq_some_iff.1 hu).1
      rw [length_cellsE] at this
      simpa using this
    rw [Addr.add_mid, Nat.zero_add]
    simp only [Nat.zero_mul, Nat.zero_add] at c0 c1 c2 c3 c4 c5
    match j, hj, hu with
    | 0, _, hu => simp [cellsE] at hu; rw [← hu]; exact c0
    | 1, _, hu => simp [cellsE] at hu; rw [← hu]; exact c1
    | 2, _, hu => simp [cellsE] at hu; rw [← hu]; exact c2
    | 3, _, hu => simp [cellsE] at hu; rw [← hu]; exact c3
    | 4, _, hu => simp [cellsE] at hu; rw [← hu]; exact c4
    | 5, _, hu => simp [cellsE] at hu; rw [← hu]; exact c5
  · intro u hu
    simp [cellsE] at hu
    rcases hu with rfl | rfl | rfl | rfl | rfl | rfl <;> rfl
  · unfold maxLen; omega
  · omega
  · intro g' cp' w' hO' hgr hat hlt
    refine h g' cp' w' ?_ hgr ?_
    · unfold OwnE
      rw [List.length_append, cellsE_append]
      exact hO'
    · rcases hat with q | q
      · exact .inl (by simpa [Value.ownBlock] using q)
      · exact .inr q
def putsTo (L : List Ent) (m : Nat) : List Ent := (L.take m).map putE
theorem putsTo_succ {L : List Ent} {m : Nat} {x : Ent} (h : L[m]? = some x) : putsTo L (m + 1) = putsTo L m ++ [putE x] := by
  unfold putsTo; rw [List.take_add_one, h]; simp
theorem putsTo_len {L : List Ent} {m : Nat} (h : m ≤ L.length) : (putsTo L m).length = m := by simp [putsTo]; omega
theorem putsTo_all {L : List Ent} {m : Nat} (h : L.length ≤ m) : putsTo L m = L.map putE := by unfold putsTo; rw [List.take_of_length_le h]

/-- How the putting stands. -/
structure PInv (w : World) (ov : Nat) (L : List Ent) (m g5 cp5 : Nat) (wr : World) : Prop where
  hdr : wr.cell? ⟨ov, 0, none⟩ = some (.slice (some ⟨g5, 0, none⟩) m cp5)
  free : wr.frozen? ⟨ov, 0, none⟩ = false
  lt : ov < wr.heap.size
  own : w.heap.size < ov
  row : OwnE wr w.heap.size g5 cp5 (putsTo L m)
  ne : ¬ g5 = ov
  new : w.heap.size < g5
  res : wr.cell? ⟨w.heap.size, 0, none⟩ = some (.slice none 0 0)
  rfree : wr.frozen? ⟨w.heap.size, 0, none⟩ = false
  below : Below w.heap.size w wr
theorem PInv.step {w : World} {ov : Nat} {L : List Ent} {m g5 cp5 : Nat} {wr w' : World} (h : PInv w ov L m g5 cp5 wr) (hb : Below wr.heap.size wr w') : PInv w ov L m g5 cp5 w' where
  hdr := by rw [hb.cell (p := ⟨ov, 0, none⟩) h.lt]; exact h.hdr
  free := by rw [hb.frozen (p := ⟨ov, 0, none⟩) h.lt]; exact h.free
  lt := by have := hb.size; have := h.lt; omega
  own := h.own
  row := h.row.below hb h.row.lt.2
  ne := h.ne
  new := h.new
  res := by rw [hb.cell (p := ⟨w.heap.size, 0, none⟩) (by have := h.own; have := h.lt; show w.heap.size < wr.heap.size; omega)]; exact h.res
  rfree := by rw [hb.frozen (p := ⟨w.heap.size, 0, none⟩) (by have := h.own; have := h.lt; show w.heap.size < wr.heap.size; omega)]; exact h.rfree
  below := h.below.trans (hb.mono h.below.size)
theorem PInv.push {w : World} {ov : Nat} {L : List Ent} {m g5 cp5 : Nat} {wA w7 : World} (h : PInv w ov L m g5 cp5 wA) {x : Ent} (hx : L[m]? = some x) {g7 cp7 : Nat} (hO : OwnE w7 w.heap.size g7 cp7 (putsTo L m ++ [putE x])) (hgr : wA.grownBy w7 (some g5)) (hgg : g5 = g7 ∨ g7 = wA.heap.size) :
    PInv w ov L (m + 1) g7 cp7 (w7.setCell ⟨ov, 0, none⟩ (.slice (some ⟨g7, 0, none⟩) (m + 1) cp7)) ∧ w7.cell? ⟨ov, 0, none⟩ = some (.slice (some ⟨g5, 0, none⟩) m cp5) ∧ w7.frozen? ⟨ov, 0, none⟩ = false := by
  have hc7 : Chg (fun k => k = g5) wA w7 := Chg.of_grown hgr (fun k hk => by cases hk; rfl)
  have hc8 : Chg (fun k => k = ov) w7 (w7.setCell ⟨ov, 0, none⟩ (.slice (some ⟨g7, 0, none⟩) (m + 1) cp7)) := Chg.of_set _ _ _ _ rfl
  have s7 := hc7.size
  have s8 := hc8.size
  have hl := h.lt
  have ho := h.own
  have hn := h.new
  have c7 : w7.cell? ⟨ov, 0, none⟩ = some (.slice (some ⟨g5, 0, none⟩) m cp5) := by rw [hc7.cell (p := ⟨ov, 0, none⟩) hl (fun q => h.ne q.symm)]; exact h.hdr
  have f7 : w7.frozen? ⟨ov, 0, none⟩ = false := by rw [hc7.frozen (p := ⟨ov, 0, none⟩) hl (fun q => h.ne q.symm)]; exact h.free
  have hne7 : ¬ g7 = ov := by
    rcases hgg with q | q
    · rw [← q]; exact h.ne
    · omega
  refine ⟨?_, c7, f7⟩
  exact {
    hdr := World.cell?_setCell_same _ _ _ c7
    free := by rw [World.frozen?_setCell]; exact f7
    lt := by omega
    own := ho
    row := by
      rw [putsTo_succ hx]
      exact World.ownsRow.kept hO (grown_set w7 ov 0 _) (.inr (fun q => hne7 (Option.some.inj q)))
    ne := hne7
    new := by
      rcases hgg with q | q
      · rw [← q]; exact hn
      · omega
    res := by
      rw [hc8.cell (p := ⟨w.heap.size, 0, none⟩) (by show w.heap.size < w7.heap.size; omega) (by show ¬ w.heap.size = ov; omega), hc7.cell (p := ⟨w.heap.size, 0, none⟩) (by show w.heap.size < wA.heap.size; omega) (by show ¬ w.heap.size = g5; omega)]
      exact h.res
    rfree := by
      rw [hc8.frozen (p := ⟨w.heap.size, 0, none⟩) (by show w.heap.size < w7.heap.size; omega) (by show ¬ w.heap.size = ov; omega), hc7.frozen (p := ⟨w.heap.size, 0, none⟩) (by show w.heap.size < wA.heap.size; omega) (by show ¬ w.heap.size = g5; omega)]
      exact h.rfree
    below := Chg.below (Chg.below h.below hc7 h.below.size (fun k q => by omega)) hc8 (by omega) (fun k q => by omega) }

set_option maxHeartbeats 4000000 in
theorem puts_core (g cap : Nat) (L : List Ent) (base : Nat) (w : World) (hC : OwnC w base g cap L) (hn : L.length ≤ 1048576) :
    Calls Try.prog 30 #[.slice (some ⟨g, 0, none⟩) L.length cap] w fun r w' =>
      ∃ g' cp, r = .returned (.agg #[.slice (some ⟨g', 0, none⟩) L.length cp]) ∧ OwnE w' w.heap.size g' cp (L.map putE) ∧ Below w.heap.size w w' := by
  have HC : Hid (OwnC w base g cap L) := hC
  have hgl := hC.lt.2
  clear hC
  obtain ⟨Wa, hWa⟩ : ∃ Wa : World, Wa = w.alloc (Obj.cells #[.slice none 0 0] 29) := ⟨_, rfl⟩
  have hba : Below w.heap.size w Wa := by rw [hWa]; exact (Below.refl _ _).alloc (Nat.le_refl _) _
  have hza : Wa.heap.size = w.heap.size + 1 := by rw [hWa]; simp
  obtain ⟨Wb, hWb⟩ : ∃ Wb : World, Wb = Wa.alloc (Obj.cells #[] 49) := ⟨_, rfl⟩
  have hbb : Below Wa.heap.size Wa Wb := by rw [hWb]; exact (Below.refl _ _).alloc (Nat.le_refl _) _
  have hzb : Wb.heap.size = w.heap.size + 1 + 1 := by rw [hWb]; simp [hza]
  obtain ⟨Wc, hWc⟩ : ∃ Wc : World, Wc = Wb.alloc (Obj.cells #[.slice (some ⟨w.heap.size + 1, 0, none⟩) 0 0] 29) := ⟨_, rfl⟩
  have hbc : Below Wb.heap.size Wb Wc := by rw [hWc]; exact (Below.refl _ _).alloc (Nat.le_refl _) _
  have hzc : Wc.heap.size = w.heap.size + 1 + 1 + 1 := by rw [hWc]; simp [hzb]
  have HP : Hid (PInv w (w.heap.size + 1 + 1) L 0 (w.heap.size + 1) 0 Wc) := by
    have k1 : Below Wa.heap.size Wa Wc := hbb.trans (hbc.mono (by omega))
    exact {
      hdr := by rw [hWc, ← hzb]; simp
      free := by
        rw [hWc, ← hzb]
        exact World.ownsRow.frozenAt (World.ownsRow_lit (base := 0) (e := 29) (size := 1) Wb #[.slice (some ⟨w.heap.size + 1, 0, none⟩) 0 0] 1 (Nat.zero_le _) (by decide) rfl) 0
      lt := by omega
      own := by omega
      row := by
        have h0 : OwnE Wb w.heap.size (w.heap.size + 1) 0 [] := by
          rw [hWb, ← hza]
          exact World.ownsRow_made Wa #[] 0 (by omega) (Nat.zero_le _) (by simp)
        exact h0.below hbc (by omega)
      ne := by omega
      new := by omega
      res := by
        rw [k1.cell (p := ⟨w.heap.size, 0, none⟩) (by show w.heap.size < Wa.heap.size; omega), hWa]; simp
      rfree := by
        rw [k1.frozen (p := ⟨w.heap.size, 0, none⟩) (by show w.heap.size < Wa.heap.size; omega), hWa]
        exact World.ownsRow.frozenAt (World.ownsRow_lit (base := 0) (e := 29) (size := 1) w #[.slice none 0 0] 1 (Nat.zero_le _) (by decide) rfl) 0
      below := hba.trans (k1.mono (by omega)) }
  go_enter Try.func30, Try.ntmps30
  go_wp2_with fail
  rw [← hWa, ← hWb, ← hWc]
  clear hWa hWb hWc hba hbb hbc
  generalize w.heap.size + 1 + 1 = ov at *
  generalize w.heap.size + 1 = g0 at *
  go_loopw [4] (fun i wr => ∃ (m g5 cp5 : Nat), m ≤ L.length ∧ i = .int .i64 m ∧ PInv w ov L m g5 cp5 wr) (fun i _ => L.length - (intOf i).toNat)
  case atStart => exact ⟨0, _, _, Nat.zero_le _, rfl, HP.out⟩
  case round =>
    obtain ⟨m, g5, cp5, hm, rfl, hI⟩ := hrel
    have HI : Hid (PInv w ov L m g5 cp5 wr) := hI
    have hbw := hI.below
    have hsw := hbw.size
    have h0 := hI.hdr
    have hf0 := hI.free
    have hgl5 := hI.row.lt.2
    have hlo := hI.lt
    clear hI HP
    by_cases hlt : m < L.length
    · obtain ⟨x, hx⟩ : ∃ x, L[m]? = some x := ⟨_, List.getElem?_eq_getElem hlt⟩
      obtain ⟨c0, c1, c2, c3, c4⟩ := (HC.out.below hbw hgl).at m x hx
      simp only [Nat.zero_add, Nat.zero_mul] at c0 c1 c2 c3 c4
      have HX : Hid (L[m]? = some x ∧ CelsAt wr g 0 L) := ⟨hx, (HC.out.below hbw hgl).at⟩
      have HTM : Hid (m = (putsTo L m).length) := (putsTo_len hm).symm
      have hpl : (putsTo L m).length ≤ 2 ^ 30 := by rw [← HTM.out]; omega
      clear hx
      have zm : (m : Int) < (L.length : Int) := by omega
      have ngo : g ≠ ov := by have := HI.out.own; omega
      have hgr0 : g < wr.heap.size := by omega
      go_upto_region 5 with fail
      go_region_law ((first
                | (go_simp; go_at_call 51; refine (specPut_any x _).mono ?_; rintro e' w6 ⟨rfl, hb6⟩; have hq6 : Below wr.heap.size wr w6 := ((Below.refl wr.heap.size wr).drew).trans hb6; have m6 := (HI.out.step hq6).hdr; have m6a : ∀ o, (w6.alloc o).cell? ⟨ov, 0, none⟩ = some (.slice (some ⟨g5, 0, none⟩) m cp5) := fun o => by { rw [((Below.refl w6.heap.size w6).alloc (Nat.le_refl _) o).cell (p := ⟨ov, 0, none⟩) (Nat.lt_of_lt_of_le hlo hq6.size)]; exact m6 })
                | (refine step_append_ent _ (by rfl) _ _ (by rfl) w.heap.size g5 cp5 m w6.heap.size (putsTo L m) (putE x) HTM.out (by rfl) (by rfl) ?hO ?hc hpl ?hb ?_
                   case hO => exact (HI.out.step hq6).row.below ((Below.refl _ _).alloc (Nat.le_refl _) _) (Nat.lt_of_lt_of_le hgl5 hq6.size)
                   case hc => exact ent_boxP w6 (putE x)
                   case hb => exact Nat.le_trans hsw (Nat.le_trans hq6.size (by simp))
                   intro g7 cp7 w7 hO7 hgr7 hgg7
                   have hpp := ((HI.out.step hq6).step ((Below.refl w6.heap.size w6).alloc (Nat.le_refl _) (Obj.cells #[.string (putE x).row, .string (putE x).fam, .string (putE x).qual, .int .u64 (putE x).ts, .int .i64 (putE x).kind, .string (putE x).val] 49))).push HX.out.1 hO7 hgr7 (by simpa using hgg7)
                   have fin7 : Hid (PInv w ov L (m + 1) g7 cp7 (w7.setCell ⟨ov, 0, none⟩ (.slice (some ⟨g7, 0, none⟩) (m + 1) cp7))) := hpp.1
                   have m7 := hpp.2.1
                   have f7 := hpp.2.2
                   clear hpp hO7 hgr7 hgg7)))
      all_goals go_wp2_with fail
      all_goals go_roundw
      all_goals first
        | exact ⟨m + 1, g7, cp7, by omega, by go_num, fin7.out⟩
        | (go_light; simp [intOf]; omega)
    · have hml : m = L.length := by omega
      have HF : Hid (OwnE wr w.heap.size g5 cp5 (L.map putE)) := by have := HI.out.row; rw [putsTo_all (by omega)] at this; exact this
      have r0 := HI.out.res
      have rf := HI.out.rfree
      have HM : Hid (m = L.length) := hml
      have zm : ¬ (m : Int) < (L.length : Int) := by omega
      have hnew := HI.out.new
      clear hml
      go_wp2_with fail
      refine bodyPost_ret (v := .agg #[.slice (some ⟨g5, 0, none⟩) m cp5]) (by simp [results, Try.results30, go_sem, World.cell?_setCell_same _ _ _ r0]) rfl ⟨g5, cp5, by rw [HM.out], ?_, ?_⟩
      · exact World.ownsRow.kept HF.out (grown_set wr w.heap.size 0 _) (.inr (fun q => by have h2 : g5 = w.heap.size := Option.some.inj q; omega))
      · exact hbw.setCell (Nat.le_refl _) _

end Go.Proofs.Ytodaanmbbgdclab
