import Derived.Deep.RegionLaw
import Derived.Deep.AppendLies
import Derived.Deep.DeepCutAuto
import Derived.Deep.RegionWith
import Derived.Test.YtnncedndlhfdkacPkAG
import Derived.Test.YtnncedndlhfdkacPkAI
import Derived.Test.YtnncedndlhfdkacPkAA
import Derived.Test.YtnncedndlhfdkacPkAE
/-
  The put of a cell; spec.l3Puts.
-/
namespace Go.Proofs.Ytnncedndlhfdkac
open Go.ChangeShapes Go.WideShapes Go.ChangeAt Go.RowKit Go.Deep
set_option linter.unusedVariables false
set_option linter.unusedSimpArgs false
set_option maxRecDepth 100000

theorem ent_boxP (w : World) (e : Ent) : EntsAt (w.alloc (Obj.cells #[.string e.row, .string e.fam, .string e.qual, .int .u64 e.ts, .int .i64 e.kind, .string e.val] 63)) w.heap.size 0 [e] := by
  intro j y hy
  obtain rfl : j = 0 := by
    have := (List.getElem?_eq_some_iff.1 hy).1
    simpa using this
  simp at hy
  subst hy
  simp
/-- The put of a cell. -/
def putE (x : Ent) : Ent := { x with kind := 0 }
set_option maxHeartbeats 400000 in
theorem specPut_any (e : Ent) (w : World) :
    Calls Try.prog 81 #[.agg #[.string e.row, .string e.fam, .string e.qual, .int .u64 e.ts, .string e.val]] w fun r w' => r = .returned (putE e).v ∧ Below w.heap.size w w' := by
  go_enter Try.func81, Try.ntmps81
  go_wp2
  refine bodyPost_ret (v := (putE e).v) (by simp [results, Try.results81, go_sem, putE]) rfl ⟨rfl, ?_⟩
  exact ((Below.refl _ _).alloc (Nat.le_refl _) _).alloc (by simp) _
set_option maxHeartbeats 400000 in
theorem implPut_any (e : Ent) (w : World) :
    Calls Try.prog 49 #[.agg #[.string e.row, .string e.fam, .string e.qual, .int .u64 e.ts, .string e.val]] w fun r w' => r = .returned (putE e).v ∧ Below w.heap.size w w' := by
  go_enter Try.func49, Try.ntmps49
  go_wp2
  refine bodyPost_ret (v := (putE e).v) (by simp [results, Try.results49, go_sem, putE]) rfl ⟨rfl, ?_⟩
  exact ((Below.refl _ _).alloc (Nat.le_refl _) _).alloc (by simp) _

/-- One entry appended, at a step of a region that draws. -/
theorem step_append_ent {ops : Array Oper} {o : Oper} {a : Act} {K : Act → World → Prop} {Q : Exit → Act → World → Prop} {E : Prop} (w : World) (hgd : o.guard = none) (s x : Operand)
    (ho : o.op = .call { callee := .builtin .append, args := #[s, x], argTypes := #[38, 38] })
    (base g cp n blk : Nat) (fs : List Ent) (e : Ent) (hn : n = fs.length) (hs : a.eval s = .slice (some ⟨g, 0, none⟩) n cp) (hx : a.eval x = .slice (some ⟨blk, 0, none⟩) 1 1) (hO : OwnE w base g cp fs)
    (hc : EntsAt w blk 0 [e]) (hlen : fs.length ≤ 2 ^ 30) (hbase : base ≤ w.heap.size)
    (h : ∀ g' cp' w', OwnE w' base g' cp' (fs ++ [e]) → w.grownBy w' (some g) → (g = g' ∨ g' = w.heap.size) → K (a.put o.dst (.slice (some ⟨g', 0, none⟩) (n + 1) cp')) w') : if Region.wanted o (yielded ops a.tmps) = true then Oper.wp Try.prog o a w K Q else E := by
  subst hn
  obtain ⟨i, hi, hz0, hz1, hz2⟩ := info_parts Try.infoEnt
  obtain ⟨c0, c1, c2, c3, c4, c5⟩ := hc 0 e rfl
  refine step_append_lies w hgd s x 38 ho base 63 i _ 6 80 Try.underlying38 hi hz0 hz1 hz2 rfl (by decide) (.slice (some ⟨g, 0, none⟩) fs.length cp) fs.length (cellsE fs) hs hO ⟨blk, 0, none⟩ 1 1 (cellsE [e]) hx rfl ?_ ?_ (by decide) ?_ ?_ hbase w.heap.size rfl ?_
  · intro j u hu
    have hj : j < 6 := by
      have := (List.getElem?_eq_some_iff.1 hu).1
      rw [length_cellsE] at this
      simpa using this
    rw [Addr.add_mid, Nat.zero_add]
    simp only [Nat.zero_mul, Nat.zero_add] at c0 c1 c2 c3 c4 c5
    match j, hj, hu with
    | 0, _, hu => simp [cellsE] at hu; rw [← hu]; exact c0
    | 1, _, hu => simp [cellsE] at hu; rw [← hu]; exact c1
    | 2, _, hu => simp [cellsE] at hu; rw [← hu]; exact c2
    | 3, _, hu => simp [cellsE] at hu; rw [← hu]; exact c3
    | 4, _, hu => simp [cellsE] at hu; rw [← hu]; exact c4
    | 5, _, hu => simp [cellsE] at hu; rw [← hu]; exact c5
  · intro u hu
    simp [cellsE] at hu
    rcases hu with rfl | rfl | rfl | rfl | rfl | rfl <;> rfl
  · unfold maxLen; omega
  · omega
  · intro g' cp' w' hO' hgr hat hlt
    refine h g' cp' w' ?_ hgr ?_
    · unfold OwnE
      rw [List.length_append, cellsE_append]
      exact hO'
    · rcases hat with q | q
      · exact .inl (by simpa [Value.ownBlock] using q)
      · exact .inr q
def putsTo (L : List Ent) (m : Nat) : List Ent := (L.take m).map putE
theorem putsTo_succ {L : List Ent} {m : Nat} {x : Ent} (h : L[m]? = some x) : putsTo L (m + 1) = putsTo L m ++ [putE x] := by
  unfold putsTo; rw [List.take_add_one, h]; simp
theorem putsTo_len {L : List Ent} {m : Nat} (h : m ≤ L.length) : (putsTo L m).length = m := by simp [putsTo]; omega
theorem putsTo_all {L : List Ent} {m : Nat} (h : L.length ≤ m) : putsTo L m = L.map putE := by unfold putsTo; rw [List.take_of_length_le h]

/-- How the putting stands. -/
structure PInv (w : World) (ov : Nat) (L : List Ent) (m g5 cp5 : Nat) (wr : World) : Prop where
  hdr : wr.cell? ⟨ov, 0, none⟩ = some (.slice (some ⟨g5, 0, none⟩) m cp5)
  free : wr.frozen? ⟨ov, 0, none⟩ = false
  lt : ov < wr.heap.size
  own : w.heap.size < ov
  row : OwnE wr w.heap.size g5 cp5 (putsTo L m)
  ne : ¬ g5 = ov
  new : w.heap.size < g5
  res : wr.cell? ⟨w.heap.size, 0, none⟩ = some (.slice none 0 0)
  rfree : wr.frozen? ⟨w.heap.size, 0, none⟩ = false
  below : Below w.heap.size w wr
theorem PInv.step {w : World} {ov : Nat} {L : List Ent} {m g5 cp5 : Nat} {wr w' : World} (h : PInv w ov L m g5 cp5 wr) (hb : Below wr.heap.size wr w') : PInv w ov L m g5 cp5 w' where
  hdr := by rw [hb.cell (p := ⟨ov, 0, none⟩) h.lt]; exact h.hdr
  free := by rw [hb.frozen (p := ⟨ov, 0, none⟩) h.lt]; exact h.free
  lt := by have := hb.size; have := h.lt; omega
  own := h.own
  row := h.row.below hb h.row.lt.2
  ne := h.ne
  new := h.new
  res := by rw [hb.cell (p := ⟨w.heap.size, 0, none⟩) (by have := h.own; have := h.lt; show w.heap.size < wr.heap.size; omega)]; exact h.res
  rfree := by rw [hb.frozen (p := ⟨w.heap.size, 0, none⟩) (by have := h.own; have := h.lt; show w.heap.size < wr.heap.size; omega)]; exact h.rfree
  below := h.below.trans (hb.mono h.below.size)
theorem PInv.push {w : World} {ov : Nat} {L : List Ent} {m g5 cp5 : Nat} {wA w7 : World} (h : PInv w ov L m g5 cp5 wA) {x : Ent} (hx : L[m]? = some x) {g7 cp7 : Nat} (hO : OwnE w7 w.heap.size g7 cp7 (putsTo L m ++ [putE x])) (hgr : wA.grownBy w7 (some g5)) (hgg : g5 = g7 ∨ g7 = wA.heap.size) :
    PInv w ov L (m + 1) g7 cp7 (w7.setCell ⟨ov, 0, none⟩ (.slice (some ⟨g7, 0, none⟩) (m + 1) cp7)) ∧ w7.cell? ⟨ov, 0, none⟩ = some (.slice (some ⟨g5, 0, none⟩) m cp5) ∧ w7.frozen? ⟨ov, 0, none⟩ = false := by
  have hc7 : Chg (fun k => k = g5) wA w7 := Chg.of_grown hgr (fun k hk => by cases hk; rfl)
  have hc8 : Chg (fun k => k = ov) w7 (w7.setCell ⟨ov, 0, none⟩ (.slice (some ⟨g7, 0, none⟩) (m + 1) cp7)) := Chg.of_set _ _ _ _ rfl
  have s7 := hc7.size
  have s8 := hc8.size
  have hl := h.lt
  have ho := h.own
  have hn := h.new
  have c7 : w7.cell? ⟨ov, 0, none⟩ = some (.slice (some ⟨g5, 0, none⟩) m cp5) := by rw [hc7.cell (p := ⟨ov, 0, none⟩) hl (fun q => h.ne q.symm)]; exact h.hdr
  have f7 : w7.frozen? ⟨ov, 0, none⟩ = false := by rw [hc7.frozen (p := ⟨ov, 0, none⟩) hl (fun q => h.ne q.symm)]; exact h.free
  have hne7 : ¬ g7 = ov := by
    rcases hgg with q | q
    · rw [← q]; exact h.ne
    · omega
  refine ⟨?_, c7, f7⟩
  exact {
    hdr := World.cell?_setCell_same _ _ _ c7
    free := by rw [World.frozen?_setCell]; exact f7
    lt := by omega
    own := ho
    row := by
      rw [putsTo_succ hx]
      exact World.ownsRow.kept hO (grown_set w7 ov 0 _) (.inr (fun q => hne7 (Option.some.inj q)))
    ne := hne7
    new := by
      rcases hgg with q | q
      · rw [← q]; exact hn
      · omega
    res := by
      rw [hc8.cell (p := ⟨w.heap.size, 0, none⟩) (by show w.heap.size < w7.heap.size; omega) (by show ¬ w.heap.size = ov; omega), hc7.cell (p := ⟨w.heap.size, 0, none⟩) (by show w.heap.size < wA.heap.size; omega) (by show ¬ w.heap.size = g5; omega)]
      exact h.res
    rfree := by
      rw [hc8.frozen (p := ⟨w.heap.size, 0, none⟩) (by show w.heap.size < w7.heap.size; omega) (by show ¬ w.heap.size = ov; omega), hc7.frozen (p := ⟨w.heap.size, 0, none⟩) (by show w.heap.size < wA.heap.size; omega) (by show ¬ w.heap.size = g5; omega)]
      exact h.rfree
    below := Chg.below (Chg.below h.below hc7 h.below.size (fun k q => by omega)) hc8 (by omega) (fun k q => by omega) }

set_option maxHeartbeats 4000000 in
theorem puts_core (g cap : Nat) (L : List Ent) (base : Nat) (w : World) (hC : OwnC w base g cap L) (hn : L.length ≤ 1048576) :
    Calls Try.prog 48 #[.slice (some ⟨g, 0, none⟩) L.length cap] w fun r w' =>
      ∃ g' cp, r = .returned (.agg #[.slice (some ⟨g', 0, none⟩) L.length cp]) ∧ OwnE w' w.heap.size g' cp (L.map putE) ∧ Below w.heap.size w w' := by
  have HC : Hid (OwnC w base g cap L) := hC
  have hgl := hC.lt.2
  clear hC
  obtain ⟨Wa, hWa⟩ : ∃ Wa : World, Wa = w.alloc (Obj.cells #[.slice none 0 0] 40) := ⟨_, rfl⟩
  have hba : Below w.heap.size w Wa := by rw [hWa]; exact (Below.refl _ _).alloc (Nat.le_refl _) _
  have hza : Wa.heap.size = w.heap.size + 1 := by rw [hWa]; simp
  obtain ⟨Wb, hWb⟩ : ∃ Wb : World, Wb = Wa.alloc (Obj.cells #[] 63) := ⟨_, rfl⟩
  have hbb : Below Wa.heap.size Wa Wb := by rw [hWb]; exact (Below.refl _ _).alloc (Nat.le_refl _) _
  have hzb : Wb.heap.size = w.heap.size + 1 + 1 := by rw [hWb]; simp [hza]
  obtain ⟨Wc, hWc⟩ : ∃ Wc : World, Wc = Wb.alloc (Obj.cells #[.slice (some ⟨w.heap.size + 1, 0, none⟩) 0 0] 40) := ⟨_, rfl⟩
  have hbc : Below Wb.heap.size Wb Wc := by rw [hWc]; exact (Below.refl _ _).alloc (Nat.le_refl _) _
  have hzc : Wc.heap.size = w.heap.size + 1 + 1 + 1 := by rw [hWc]; simp [hzb]
  have HP : Hid (PInv w (w.heap.size + 1 + 1) L 0 (w.heap.size + 1) 0 Wc) := by
    have k1 : Below Wa.heap.size Wa Wc := hbb.trans (hbc.mono (by omega))
    exact {
      hdr := by rw [hWc, ← hzb]; simp
      free := by
        rw [hWc, ← hzb]
        exact World.ownsRow.frozenAt (World.ownsRow_lit (base := 0) (e := 40) (size := 1) Wb #[.slice (some ⟨w.heap.size + 1, 0, none⟩) 0 0] 1 (Nat.zero_le _) (by decide) rfl) 0
      lt := by omega
      own := by omega
      row := by
        have h0 : OwnE Wb w.heap.size (w.heap.size + 1) 0 [] := by
          rw [hWb, ← hza]
          exact World.ownsRow_made Wa #[] 0 (by omega) (Nat.zero_le _) (by simp)
        exact h0.below hbc (by omega)
      ne := by omega
      new := by omega
      res := by
        rw [k1.cell (p := ⟨w.heap.size, 0, none⟩) (by show w.heap.size < Wa.heap.size; omega), hWa]; simp
      rfree := by
        rw [k1.frozen (p := ⟨w.heap.size, 0, none⟩) (by show w.heap.size < Wa.heap.size; omega), hWa]
        exact World.ownsRow.frozenAt (World.ownsRow_lit (base := 0) (e := 40) (size := 1) w #[.slice none 0 0] 1 (Nat.zero_le _) (by decide) rfl) 0
      below := hba.trans (k1.mono (by omega)) }
  go_enter Try.func48, Try.ntmps48
  go_wp2_with fail
  rw [← hWa, ← hWb, ← hWc]
  clear hWa hWb hWc hba hbb hbc
  generalize w.heap.size + 1 + 1 = ov at *
  generalize w.heap.size + 1 = g0 at *
  go_loopw [4] (fun i wr => ∃ (m g5 cp5 : Nat), m ≤ L.length ∧ i = .int .i64 m ∧ PInv w ov L m g5 cp5 wr) (fun i _ => L.length - (intOf i).toNat)
  case atStart => exact ⟨0, _, _, Nat.zero_le _, rfl, HP.out⟩
  case round =>
    obtain ⟨m, g5, cp5, hm, rfl, hI⟩ := hrel
    have HI : Hid (PInv w ov L m g5 cp5 wr) := hI
    have hbw := hI.below
    have hsw := hbw.size
    have h0 := hI.hdr
    have hf0 := hI.free
    have hgl5 := hI.row.lt.2
    have hlo := hI.lt
    clear hI HP
    by_cases hlt : m < L.length
    · obtain ⟨x, hx⟩ : ∃ x, L[m]? = some x := ⟨_, List.getElem?_eq_getElem hlt⟩
      obtain ⟨c0, c1, c2, c3, c4⟩ := (HC.out.below hbw hgl).at m x hx
      simp only [Nat.zero_add, Nat.zero_mul] at c0 c1 c2 c3 c4
      have HX : Hid (L[m]? = some x ∧ CelsAt wr g 0 L) := ⟨hx, (HC.out.below hbw hgl).at⟩
      have HTM : Hid (m = (putsTo L m).length) := (putsTo_len hm).symm
      have hpl : (putsTo L m).length ≤ 2 ^ 30 := by rw [← HTM.out]; omega
      clear hx
      have zm : (m : Int) < (L.length : Int) := by omega
      have ngo : g ≠ ov := by have := HI.out.own; omega
      have hgr0 : g < wr.heap.size := by omega
      go_upto_region 5 with fail
      go_region_law ((first
                | (go_simp; go_at_call 81; refine (specPut_any x _).mono ?_; rintro e' w6 ⟨rfl, hb6⟩; have hq6 : Below wr.heap.size wr w6 := ((Below.refl wr.heap.size wr).drew).trans hb6; have m6 := (HI.out.step hq6).hdr; have m6a : ∀ o, (w6.alloc o).cell? ⟨ov, 0, none⟩ = some (.slice (some ⟨g5, 0, none⟩) m cp5) := fun o => by { rw [((Below.refl w6.heap.size w6).alloc (Nat.le_refl _) o).cell (p := ⟨ov, 0, none⟩) (Nat.lt_of_lt_of_le hlo hq6.size)]; exact m6 })
                | (refine step_append_ent _ (by rfl) _ _ (by rfl) w.heap.size g5 cp5 m w6.heap.size (putsTo L m) (putE x) HTM.out (by rfl) (by rfl) ?hO ?hc hpl ?hb ?_
                   case hO => exact (HI.out.step hq6).row.below ((Below.refl _ _).alloc (Nat.le_refl _) _) (Nat.lt_of_lt_of_le hgl5 hq6.size)
                   case hc => exact ent_boxP w6 (putE x)
                   case hb => exact Nat.le_trans hsw (Nat.le_trans hq6.size (by simp))
                   intro g7 cp7 w7 hO7 hgr7 hgg7
                   have hpp := ((HI.out.step hq6).step ((Below.refl w6.heap.size w6).alloc (Nat.le_refl _) (Obj.cells #[.string (putE x).row, .string (putE x).fam, .string (putE x).qual, .int .u64 (putE x).ts, .int .i64 (putE x).kind, .string (putE x).val] 63))).push HX.out.1 hO7 hgr7 (by simpa using hgg7)
                   have fin7 : Hid (PInv w ov L (m + 1) g7 cp7 (w7.setCell ⟨ov, 0, none⟩ (.slice (some ⟨g7, 0, none⟩) (m + 1) cp7))) := hpp.1
                   have m7 := hpp.2.1
                   have f7 := hpp.2.2
                   clear hpp hO7 hgr7 hgg7)))
      all_goals go_wp2_with fail
      all_goals go_roundw
      all_goals first
        | exact ⟨m + 1, g7, cp7, by omega, by go_num, fin7.out⟩
        | (go_light; simp [intOf]; omega)
    · have hml : m = L.length := by omega
      have HF : Hid (OwnE wr w.heap.size g5 cp5 (L.map putE)) := by have := HI.out.row; rw [putsTo_all (by omega)] at this; exact this
      have r0 := HI.out.res
      have rf := HI.out.rfree
      have HM : Hid (m = L.length) := hml
      have zm : ¬ (m : Int) < (L.length : Int) := by omega
      have hnew := HI.out.new
      clear hml
      go_wp2_with fail
      refine bodyPost_ret (v := .agg #[.slice (some ⟨g5, 0, none⟩) m cp5]) (by simp [results, Try.results48, go_sem, World.cell?_setCell_same _ _ _ r0]) rfl ⟨g5, cp5, by rw [HM.out], ?_, ?_⟩
      · exact World.ownsRow.kept HF.out (grown_set wr w.heap.size 0 _) (.inr (fun q => by have h2 : g5 = w.heap.size := Option.some.inj q; omega))
      · exact hbw.setCell (Nat.le_refl _) _

end Go.Proofs.Ytnncedndlhfdkac

/-
  spec.CompactRuns, impl.CompactRuns.
-/
namespace Go.Proofs.Ytnncedndlhfdkac
open Go.ChangeShapes Go.WideShapes Go.ChangeAt Go.RowKit Go.Deep
set_option linter.unusedVariables false
set_option linter.unusedSimpArgs false
set_option maxRecDepth 100000

/-- What a compacted run may be. -/
def CmpOf (rs : List (List Ent)) (R : List Ent) : Prop := ∃ L, MrgOf rs (inR ⟨#[]⟩ false ⟨#[]⟩) L ∧ ((10000 < L.length ∧ R = []) ∨ (L.length ≤ 10000 ∧ R = L.map putE))
theorem cmpOf_uniq {rs : List (List Ent)} {R R' : List Ent} (h : CmpOf rs R) (k : CmpOf rs R') : R = R' := by
  obtain ⟨L, h1, h2⟩ := h
  obtain ⟨M, k1, k2⟩ := k
  have := mrgOf_uniq h1 k1
  subst this
  rcases h2 with ⟨a, b⟩ | ⟨a, b⟩ <;> rcases k2 with ⟨c, d⟩ | ⟨c, d⟩
  · rw [b, d]
  · omega
  · omega
  · rw [b, d]
theorem cmpOf_len {rs : List (List Ent)} {R : List Ent} (h : CmpOf rs R) : R.length ≤ 10000 := by
  obtain ⟨L, h1, h2⟩ := h
  rcases h2 with ⟨a, b⟩ | ⟨a, b⟩
  · rw [b]; simp
  · rw [b]; simpa using a

set_option maxHeartbeats 2000000 in
theorem specCompact_own (base g : Nat) (l : List (Nat × List Ent)) (w : World) (h : OwnRuns w base g l) (ho : okL l) (hn : l.length ≤ 1048576) :
    Calls Try.prog 18 #[.slice (some ⟨g, 0, none⟩) l.length l.length] w fun r w' =>
      ∃ (a : Option Addr) (n c : Nat) (R : List Ent), r = .returned (.agg #[.slice a n c]) ∧ OwnU w' w.heap.size (.slice a n c) R ∧ CmpOf (l.map Prod.snd) R ∧ Below w.heap.size w w' := by
  obtain ⟨Wa, hWa⟩ : ∃ Wa : World, Wa = w.alloc (Obj.cells #[.slice none 0 0] 40) := ⟨_, rfl⟩
  have hba : Below w.heap.size w Wa := by rw [hWa]; exact (Below.refl _ _).alloc (Nat.le_refl _) _
  have hza : Wa.heap.size = w.heap.size + 1 := by rw [hWa]; simp
  have HRes : Hid (Wa.cell? ⟨w.heap.size, 0, none⟩ = some (.slice none 0 0) ∧ Wa.frozen? ⟨w.heap.size, 0, none⟩ = false) := by
    rw [hWa]
    exact ⟨by simp, World.ownsRow.frozenAt (World.ownsRow_lit (base := 0) (e := 40) (size := 1) w #[.slice none 0 0] 1 (Nat.zero_le _) (by decide) rfl) 0⟩
  have HO : Hid (OwnRuns Wa base g l ∧ okL l) := ⟨h.below hba, ho⟩
  clear h ho
  go_enter Try.func18, Try.ntmps18
  go_wp2_with fail
  rw [← hWa]
  clear hWa
  refine (specMerge_own base g l ⟨#[]⟩ ⟨#[]⟩ false _ HO.out.1 HO.out.2 hn).mono ?_
  rintro e w1 ⟨gc, cc, L, rfl, hC1, hb1, hLl, hM⟩
  have s1 := hb1.size
  have k1 : Below w.heap.size w w1 := hba.trans (hb1.mono (by omega))
  have HC1 : Hid (OwnC w1 Wa.heap.size gc cc L ∧ MrgOf (l.map Prod.snd) (inR ⟨#[]⟩ false ⟨#[]⟩) L) := ⟨hC1, hM⟩
  clear hC1 hM
  have r1 : w1.cell? ⟨w.heap.size, 0, none⟩ = some (.slice none 0 0) := by rw [hb1.cell (p := ⟨w.heap.size, 0, none⟩) (by show w.heap.size < Wa.heap.size; omega)]; exact HRes.out.1
  have f1 : w1.frozen? ⟨w.heap.size, 0, none⟩ = false := by rw [hb1.frozen (p := ⟨w.heap.size, 0, none⟩) (by show w.heap.size < Wa.heap.size; omega)]; exact HRes.out.2
  by_cases hbig : 10000 < L.length
  · have zb : (10000 : Int) < (L.length : Int) := by omega
    go_wp2_with fail
    refine bodyPost_ret (v := .agg #[.slice none 0 0]) (by simp [results, Try.results18, go_sem, World.cell?_setCell_same _ _ _ r1]) rfl ⟨none, 0, 0, [], rfl, .inl ⟨rfl, rfl⟩, ⟨L, HC1.out.2, .inl ⟨hbig, rfl⟩⟩, ?_⟩
    exact k1.setCell (Nat.le_refl _) _
  · have zb : ¬ (10000 : Int) < (L.length : Int) := by omega
    go_wp2_with fail
    refine (puts_core gc cc L Wa.heap.size _ HC1.out.1 (by omega)).mono ?_
    rintro e w2 ⟨g2, cp2, rfl, hE2, hb2⟩
    have s2 := hb2.size
    have hg2 := hE2.lt
    have HE2 : Hid (OwnE w2 w1.heap.size g2 cp2 (L.map putE)) := hE2
    have k2 : Below w.heap.size w w2 := k1.trans (hb2.mono (by omega))
    have r2 : w2.cell? ⟨w.heap.size, 0, none⟩ = some (.slice none 0 0) := by rw [hb2.cell (p := ⟨w.heap.size, 0, none⟩) (by show w.heap.size < w1.heap.size; omega)]; exact r1
    have f2 : w2.frozen? ⟨w.heap.size, 0, none⟩ = false := by rw [hb2.frozen (p := ⟨w.heap.size, 0, none⟩) (by show w.heap.size < w1.heap.size; omega)]; exact f1
    clear hE2 r1 f1
    go_wp2_with fail
    refine bodyPost_ret (v := .agg #[.slice (some ⟨g2, 0, none⟩) L.length cp2]) (by simp [results, Try.results18, go_sem, World.cell?_setCell_same _ _ _ r2]) rfl ⟨some ⟨g2, 0, none⟩, L.length, cp2, L.map putE, rfl, .inr ⟨g2, cp2, by simp, ?_⟩, ⟨L, HC1.out.2, .inr ⟨by omega, rfl⟩⟩, ?_⟩
    · exact OwnE.mono (World.ownsRow.kept HE2.out (grown_set w2 w.heap.size 0 _) (.inr (fun q => by have h2 : g2 = w.heap.size := Option.some.inj q; omega))) (by omega)
    · exact k2.setCell (Nat.le_refl _) _
end Go.Proofs.Ytnncedndlhfdkac

/-
  impl.CompactRuns.
-/
namespace Go.Proofs.Ytnncedndlhfdkac
open Go.ChangeShapes Go.WideShapes Go.ChangeAt Go.RowKit Go.Deep
set_option linter.unusedVariables false
set_option linter.unusedSimpArgs false
set_option maxRecDepth 100000

set_option maxHeartbeats 4000000 in
theorem implCompact_core (b off cap : Nat) (l : List Rm) (w : World) (h : RmsAt w b off l) (ho : okM l) (hB : b < w.heap.size) (hn : l.length ≤ 1048576) :
    Calls Try.prog 19 #[.slice (some ⟨b, off, none⟩) l.length cap] w fun r w' =>
      ∃ (a : Option Addr) (n c : Nat) (R : List Ent), r = .returned (.agg #[.slice a n c]) ∧ OwnU w' w.heap.size (.slice a n c) R ∧ CmpOf (esM l) R ∧ Below w.heap.size w w' ∧ (a = none → ∃ L, MrgOf (esM l) (inR ⟨#[]⟩ false ⟨#[]⟩) L ∧ 10000 < L.length) := by
  obtain ⟨i, hi0, hz0, hz1, hz2⟩ := info_parts Try.infoEnt
  have HI : Hid (Try.prog.info? 63 = some i ∧ i.zero = some (.agg #[.string ⟨#[]⟩, .string ⟨#[]⟩, .string ⟨#[]⟩, .int .u64 0, .int .i64 0, .string ⟨#[]⟩]) ∧ i.size = 6 ∧ i.bytes = 80) := ⟨hi0, hz0, hz1, hz2⟩
  clear hi0 hz0 hz1 hz2
  obtain ⟨Wa, hWa⟩ : ∃ Wa : World, Wa = w.alloc (Obj.cells #[.slice none 0 0] 40) := ⟨_, rfl⟩
  have hba : Below w.heap.size w Wa := by rw [hWa]; exact (Below.refl _ _).alloc (Nat.le_refl _) _
  have hza : Wa.heap.size = w.heap.size + 1 := by rw [hWa]; simp
  have HRes : Hid (Wa.cell? ⟨w.heap.size, 0, none⟩ = some (.slice none 0 0) ∧ Wa.frozen? ⟨w.heap.size, 0, none⟩ = false) := by
    rw [hWa]
    exact ⟨by simp, World.ownsRow.frozenAt (World.ownsRow_lit (base := 0) (e := 40) (size := 1) w #[.slice none 0 0] 1 (Nat.zero_le _) (by decide) rfl) 0⟩
  have HO : Hid (RmsAt Wa b off l ∧ okM l) := ⟨h.below hba hB, ho⟩
  have hBa : b < Wa.heap.size := by omega
  clear h ho
  go_enter Try.func19, Try.ntmps19
  go_wp2_with fail
  rw [← hWa]
  clear hWa
  refine (implMerge_core b off cap l ⟨#[]⟩ ⟨#[]⟩ false _ HO.out.1 HO.out.2 hBa hn).mono ?_
  rintro e w1 ⟨gc, cc, L, rfl, hC1, hb1, hM⟩
  have s1 := hb1.size
  have k1 : Below w.heap.size w w1 := hba.trans (hb1.mono (by omega))
  have HC1 : Hid (OwnC w1 Wa.heap.size gc cc L ∧ MrgOf (esM l) (inR ⟨#[]⟩ false ⟨#[]⟩) L) := ⟨hC1, hM⟩
  have hgc := hC1.lt.2
  clear hC1 hM
  have r1 : w1.cell? ⟨w.heap.size, 0, none⟩ = some (.slice none 0 0) := by rw [hb1.cell (p := ⟨w.heap.size, 0, none⟩) (by show w.heap.size < Wa.heap.size; omega)]; exact HRes.out.1
  have f1 : w1.frozen? ⟨w.heap.size, 0, none⟩ = false := by rw [hb1.frozen (p := ⟨w.heap.size, 0, none⟩) (by show w.heap.size < Wa.heap.size; omega)]; exact HRes.out.2
  by_cases hbig : 10000 < L.length
  · have zb : (10000 : Int) < (L.length : Int) := by omega
    go_wp2_with fail
    refine bodyPost_ret (v := .agg #[.slice none 0 0]) (by simp [results, Try.results19, go_sem, World.cell?_setCell_same _ _ _ r1]) rfl ⟨none, 0, 0, [], rfl, .inl ⟨rfl, rfl⟩, ⟨L, HC1.out.2, .inl ⟨hbig, rfl⟩⟩, ?_, fun _ => ⟨L, HC1.out.2, hbig⟩⟩
    exact k1.setCell (Nat.le_refl _) _
  · have zb : ¬ (10000 : Int) < (L.length : Int) := by omega
    have HRs : Hid (w1.cell? ⟨w.heap.size, 0, none⟩ = some (.slice none 0 0) ∧ w1.frozen? ⟨w.heap.size, 0, none⟩ = false) := ⟨r1, f1⟩
    clear r1 f1
    go_wp2_with (at_make; refine wpList_make_own _ rfl _ _ 38 rfl w1.heap.size 63 i _ 6 Try.underlying38 HI.out.1 HI.out.2.1 HI.out.2.2.1 _ _ _ L.length rfl rfl ?_ ?hb ?hm ?hs ?_)
    case hb => rw [HI.out.2.2.2]; omega
    case hm => unfold maxLen; omega
    case hs => exact Nat.le_refl _
    · rfl
    intro w2 hown hgr
    have hb2 : Below w1.heap.size w1 w2 := (Below.refl _ _).grown hgr (Nat.le_refl _) (fun k hk => by cases hk)
    have HE2 : Hid (OwnE w2 w1.heap.size w1.heap.size L.length []) := hown
    clear hown hgr
    go_wp2_with fail
    go_loopw [4, 19] (fun o c wr => ∃ (m g5 cp5 : Nat), m ≤ L.length ∧ c = .int .i64 m ∧ o = .slice (some ⟨g5, 0, none⟩) m cp5 ∧ OwnE wr w1.heap.size g5 cp5 (putsTo L m) ∧ Below w1.heap.size w1 wr) (fun _ c _ => L.length - (intOf c).toNat)
    case atStart => exact ⟨0, _, _, Nat.zero_le _, rfl, rfl, HE2.out, hb2⟩
    case round =>
      obtain ⟨m, g5, cp5, hm, rfl, rfl, hE, hb⟩ := hrel
      have HE : Hid (OwnE wr w1.heap.size g5 cp5 (putsTo L m)) := hE
      have hg5 := hE.lt
      have hs := hb.size
      clear hE
      by_cases hlt : m < L.length
      · obtain ⟨x, hx⟩ : ∃ x, L[m]? = some x := ⟨_, List.getElem?_eq_getElem hlt⟩
        obtain ⟨c0, c1, c2, c3, c4⟩ := (HC1.out.1.below hb hgc).at m x hx
        simp only [Nat.zero_add, Nat.zero_mul] at c0 c1 c2 c3 c4
        have HX : Hid (putsTo L (m + 1) = putsTo L m ++ [putE x]) := putsTo_succ hx
        have HTM : Hid (m = (putsTo L m).length) := (putsTo_len hm).symm
        clear hx
        have zm : (m : Int) < (L.length : Int) := by omega
        obtain ⟨W3, hW3⟩ : ∃ W3 : World, W3 = wr.alloc (Obj.cells #[.string x.row, .string x.fam, .string x.qual, .int .u64 x.ts, .string x.val] 69) := ⟨_, rfl⟩
        have hb3 : Below wr.heap.size wr W3 := by rw [hW3]; exact (Below.refl _ _).alloc (Nat.le_refl _) _
        have hs3 := hb3.size
        go_wp2_with fail
        rw [← hW3]
        clear hW3 c0 c1 c2 c3 c4
        refine (implPut_any x _).mono ?_
        rintro e' w4 ⟨rfl, hb4⟩
        have hs4 := hb4.size
        have k4 : Below wr.heap.size wr w4 := hb3.trans (hb4.mono hs3)
        have HE4 : Hid (OwnE w4 w1.heap.size g5 cp5 (putsTo L m)) := HE.out.below k4 hg5.2
        have kb4 : Below w1.heap.size w1 w4 := hb.trans (k4.mono hs)
        clear hb3 hb4
        go_wp2_with (at_builtin; refine wpList_append_ent _ rfl _ _ rfl w1.heap.size g5 cp5 _ _ (putsTo L m) (putE x) rfl rfl HTM.out ?hO ?hc ?hl ?hb ?_)
        case hO => exact HE4.out.below ((Below.refl _ _).alloc (Nat.le_refl _) _) (by omega)
        case hc => exact ent_box w4 (putE x)
        case hl => rw [← HTM.out]; omega
        case hb => simp; omega
        intro g' cp' w' hO' hgr
        have HO' : Hid (OwnE w' w1.heap.size g' cp' (putsTo L (m + 1))) := by show OwnE w' w1.heap.size g' cp' (putsTo L (m + 1)); rw [HX.out]; exact hO'
        have hb' : Below w1.heap.size w1 w' := (kb4.alloc kb4.size _).grown hgr (by simp; omega) (fun j hj => by cases hj; omega)
        clear hO' hgr
        go_wp2_with fail
        go_roundw
        case rel => exact ⟨m + 1, g', cp', by omega, by go_num, rfl, HO'.out, hb'⟩
        case measure => go_light; simp [intOf]; omega
      · have HF : Hid (OwnE wr w1.heap.size g5 cp5 (L.map putE)) := by have := HE.out; rw [putsTo_all (by omega)] at this; exact this
        have HM : Hid (m = L.length) := by show m = L.length; omega
        have zm : ¬ (m : Int) < (L.length : Int) := by omega
        have r2 : wr.cell? ⟨w.heap.size, 0, none⟩ = some (.slice none 0 0) := by rw [hb.cell (p := ⟨w.heap.size, 0, none⟩) (by show w.heap.size < w1.heap.size; omega)]; exact HRs.out.1
        have f2 : wr.frozen? ⟨w.heap.size, 0, none⟩ = false := by rw [hb.frozen (p := ⟨w.heap.size, 0, none⟩) (by show w.heap.size < w1.heap.size; omega)]; exact HRs.out.2
        go_wp2_with fail
        refine bodyPost_ret (v := .agg #[.slice (some ⟨g5, 0, none⟩) m cp5]) (by simp [results, Try.results19, go_sem, World.cell?_setCell_same _ _ _ r2]) rfl ⟨some ⟨g5, 0, none⟩, m, cp5, rfl, L.map putE, .inr ⟨g5, cp5, by rw [HM.out]; simp, ?_⟩, ⟨L, HC1.out.2, .inr ⟨by omega, rfl⟩⟩, ?_, (fun q => by cases q)⟩
        · exact OwnE.mono (World.ownsRow.kept HF.out (grown_set wr w.heap.size 0 _) (.inr (fun q => by have h2 : g5 = w.heap.size := Option.some.inj q; omega))) (by omega)
        · exact (k1.trans (hb.mono (by omega))).setCell (Nat.le_refl _) _
theorem implCompact_own (base g : Nat) (l : List (Nat × List Ent)) (w : World) (h : OwnRuns w base g l) (ho : okL l) (hn : l.length ≤ 1048576) :
    Calls Try.prog 19 #[.slice (some ⟨g, 0, none⟩) l.length l.length] w fun r w' =>
      ∃ (a : Option Addr) (n c : Nat) (R : List Ent), r = .returned (.agg #[.slice a n c]) ∧ OwnU w' w.heap.size (.slice a n c) R ∧ CmpOf (l.map Prod.snd) R ∧ Below w.heap.size w w' := by
  have := implCompact_core g 0 l.length (rmsOf l) w h.at (okM_of ho) h.lt.2 (by rw [rmsOf_len]; exact hn)
  rw [rmsOf_len, esM_rms] at this
  refine this.mono ?_
  rintro e w' ⟨a, n, c, R, h1, h2, h3, h4, _⟩
  exact ⟨a, n, c, R, h1, h2, h3, h4⟩
end Go.Proofs.Ytnncedndlhfdkac

/-
  The compacted run of good runs is good and shows what they show (no memory).
-/
namespace Go.Proofs.Ytnncedndlhfdkac
set_option linter.unusedVariables false
set_option linter.unusedSimpArgs false

theorem nodup_ord {L : List Ent} (h : Ord L) : L.Nodup := by
  refine List.Pairwise.imp ?_ h
  rintro a b hab rfl
  have : keyCmp a a = 0 := keyCmp_zero.2 (by simp)
  omega
theorem nodup_sub_len : ∀ {L M : List Ent}, L.Nodup → (∀ x ∈ L, x ∈ M) → L.length ≤ M.length
  | [], _, _, _ => Nat.zero_le _
  | x :: L, M, h, hs => by
    obtain ⟨a, b, rfl⟩ := List.append_of_mem (hs x (by simp))
    have hx := List.nodup_cons.1 h
    have ih := nodup_sub_len (L := L) (M := a ++ b) hx.2 (fun y hy => by
      have := hs y (List.mem_cons_of_mem _ hy)
      simp only [List.mem_append, List.mem_cons] at this ⊢
      rcases this with q | rfl | q
      · exact .inl q
      · exact absurd hy hx.1
      · exact .inr q)
    simp only [List.length_append, List.length_cons] at ih ⊢
    omega
theorem flatten_len {rs : List (List Ent)} {c : Nat} (h : ∀ es ∈ rs, es.length ≤ c) : rs.flatten.length ≤ rs.length * c := by
  induction rs with
  | nil => simp
  | cons a r ih =>
    have h1 := ih (fun es he => h es (List.mem_cons_of_mem _ he))
    have h2 := h a (by simp)
    simp only [List.flatten_cons, List.length_append, List.length_cons, Nat.succ_mul]
    omega
theorem mrg_short {rs : List (List Ent)} {inr : ByteArray → Bool} {L : List Ent} (h : MrgOf rs inr L) (hc : ∀ es ∈ rs, es.length ≤ 101) : L.length ≤ 10000 := by
  by_cases g : GoodRs rs
  · have h1 := nodup_sub_len (nodup_ord (h.1 g).1) (mrg_len (h.1 g))
    have h2 := flatten_len hc
    have h3 : rs.length * 101 ≤ 50 * 101 := Nat.mul_le_mul_right _ g.1
    omega
  · rw [h.2 g]; simp
theorem inR_all (r : ByteArray) : inR ⟨#[]⟩ false ⟨#[]⟩ r = true := by
  have h : (⟨#[]⟩ : ByteArray).toList = [] := by rw [ByteArray.toList_eq]
  unfold inR
  rw [h]
  cases r.toList <;> simp [Op.bytesLess]
theorem putE_of {x : Ent} (h : x.kind = 0) : putE x = x := by
  cases x
  simp [putE] at h ⊢
  exact h.symm
theorem puts_same {L : List Ent} (h : ∀ x ∈ L, x.kind = 0) : L.map putE = L := by
  induction L with
  | nil => rfl
  | cons a r ih => rw [List.map_cons, putE_of (h a (by simp)), ih (fun x hx => h x (List.mem_cons_of_mem _ hx))]
theorem good_of_mrg {rs : List (List Ent)} {L : List Ent} (hG : GoodRs rs) (h : Mrg rs (inR ⟨#[]⟩ false ⟨#[]⟩) L) (hn : L.length ≤ 10000) : GoodR L := by
  refine ⟨⟨hn, fun x hx => ?_⟩, fun i p e hp he => ?_⟩
  · obtain ⟨i, j, ⟨es, h1, h2⟩, _⟩ := (h.2 x).1 hx
    exact (hG.2 es (List.mem_of_getElem? h1)).1.2 x (List.mem_of_getElem? h2)
  · have hk := ord_get h.1 (Nat.lt_succ_self i) hp he
    obtain ⟨_, _, _, hg⟩ := (h.2 p).1 (List.mem_of_getElem? hp)
    unfold okPair
    simp [hk, hg.1]
theorem goodR_nil : GoodR [] := ⟨⟨by simp, fun x hx => by simp at hx⟩, fun i p e hp => by simp at hp⟩
theorem goodRs_one {R : List Ent} (h : GoodR R) : GoodRs [R] := ⟨by simp, fun es he => by simp at he; subst he; exact h⟩
/-- What the one run shows. -/
theorem mrg_one {R : List Ent} {inr : ByteArray → Bool} {M : List Ent} (h : Mrg [R] inr M) (x : Ent) : x ∈ M ↔ x ∈ R ∧ x.kind = 0 ∧ inr x.row = true := by
  refine (h.2 x).trans ⟨?_, ?_⟩
  · rintro ⟨i, j, ⟨es, h1, h2⟩, hg⟩
    have : es = R := by
      cases i with
      | zero => simpa using h1.symm
      | succ i => simp at h1
    subst this
    exact ⟨List.mem_of_getElem? h2, hg.1, hg.2.1⟩
  · rintro ⟨hx, hk, hi⟩
    obtain ⟨j, hj⟩ := List.getElem?_of_mem hx
    exact ⟨0, j, ⟨R, rfl, hj⟩, hk, hi, hidTo_zero _ _⟩
theorem compact_shows {rs : List (List Ent)} {R M W : List Ent} {inr : ByteArray → Bool} (hR : CmpOf rs R) (hc : ∀ es ∈ rs, es.length ≤ 101) (hW : MrgOf rs inr W) : GoodR R ∧ (MrgOf [R] inr M → M = W) := by
  obtain ⟨L, hL, h⟩ := hR
  have hn := mrg_short hL hc
  have hRL : R = L.map putE := by
    rcases h with ⟨h, _⟩ | ⟨_, h⟩
    · omega
    · exact h
  clear h
  by_cases g : GoodRs rs
  · have hm := hL.1 g
    have hk : ∀ x ∈ L, x.kind = 0 := fun x hx => by obtain ⟨_, _, _, hg⟩ := (hm.2 x).1 hx; exact hg.1
    rw [puts_same hk] at hRL
    subst hRL
    have hg := good_of_mrg g hm hn
    refine ⟨hg, fun hM => ?_⟩
    have h1 := hM.1 (goodRs_one hg)
    have h2 := hW.1 g
    refine ord_ext h1.1 h2.1 (fun x => (mrg_one h1 x).trans ⟨?_, ?_⟩)
    · rintro ⟨hx, _, hi⟩
      obtain ⟨i, j, ha, hg⟩ := (hm.2 x).1 hx
      exact (h2.2 x).2 ⟨i, j, ha, hg.1, hi, hg.2.2⟩
    · intro hx
      obtain ⟨i, j, ha, hg⟩ := (h2.2 x).1 hx
      exact ⟨(hm.2 x).2 ⟨i, j, ha, hg.1, inR_all _, hg.2.2⟩, hg.1, hg.2.1⟩
  · rw [hL.2 g] at hRL
    simp at hRL
    subst hRL
    refine ⟨goodR_nil, fun hM => ?_⟩
    rw [hW.2 g]
    refine List.eq_nil_iff_forall_not_mem.2 (fun x hx => ?_)
    have := ((mrg_one (hM.1 (goodRs_one goodR_nil)) x).1 hx).1
    simp at this
theorem compact_mem {rs : List (List Ent)} {R : List Ent} (hR : CmpOf rs R) : ∀ x ∈ R, ∃ es ∈ rs, x ∈ es := by
  obtain ⟨L, hL, h⟩ := hR
  rcases h with ⟨_, h⟩ | ⟨_, h⟩
  · subst h; intro x hx; simp at hx
  · by_cases g : GoodRs rs
    · have hm := hL.1 g
      have hk : ∀ x ∈ L, x.kind = 0 := fun x hx => by obtain ⟨_, _, _, hg⟩ := (hm.2 x).1 hx; exact hg.1
      rw [puts_same hk] at h
      subst h
      intro x hx
      obtain ⟨i, j, ⟨es, h1, h2⟩, _⟩ := (hm.2 x).1 hx
      exact ⟨es, List.mem_of_getElem? h1, List.mem_of_getElem? h2⟩
    · rw [hL.2 g] at h
      subst h
      intro x hx
      simp at hx
end Go.Proofs.Ytnncedndlhfdkac

/-
  laws.lwCells.
-/
namespace Go.Proofs.Ytnncedndlhfdkac
open Go.ChangeShapes Go.WideShapes Go.ChangeAt Go.RowKit Go.Deep
set_option linter.unusedVariables false
set_option linter.unusedSimpArgs false
set_option maxRecDepth 100000

set_option maxHeartbeats 1000000 in
theorem lwCells_same (b off cap b' off' cap' : Nat) (es : List Ent) (w : World) (hE : CelsAt w b off es) (hE' : CelsAt w b' off' es) (hB : b < w.heap.size) (hB' : b' < w.heap.size) (hlen : es.length ≤ maxLen) :
    Calls Try.prog 25 #[.slice (some ⟨b, off, none⟩) es.length cap, .slice (some ⟨b', off', none⟩) es.length cap'] w fun e w' => e = .returned (.bool true) ∧ Below w.heap.size w w' := by
  have HE : Hid (CelsAt w b off es ∧ CelsAt w b' off' es) := ⟨hE, hE'⟩
  clear hE hE'
  unfold maxLen at hlen
  go_enter Try.func25, Try.ntmps25
  go_wp2
  go_loopw [5] (fun i wr => ∃ (k : Nat), k ≤ es.length ∧ i = .int .i64 k ∧ Below w.heap.size w wr) (fun i _ => es.length - (intOf i).toNat)
  case atStart => exact ⟨0, Nat.zero_le _, rfl, Below.refl _ _⟩
  case round =>
    obtain ⟨k, hk, rfl, hb⟩ := hrel
    have hs2 := hb.size
    by_cases hlt : k < es.length
    · obtain ⟨e, he⟩ : ∃ e, es[k]? = some e := ⟨_, List.getElem?_eq_getElem hlt⟩
      obtain ⟨c0, c1, c2, c3, c4⟩ := HE.out.1.below hb hB k e he
      obtain ⟨d0, d1, d2, d3, d4⟩ := HE.out.2.below hb hB' k e he
      clear he
      go_upto_region 6 with fail
      go_cut [25] (fun s wx => s = .bool false ∧ Below w.heap.size w wx)
      case first =>
        have z2 : (k : Int) < (es.length : Int) := by omega
        go_region
        all_goals go_wp2_with fail
        all_goals go_meet
        all_goals exact ⟨rfl, hb.drew⟩
      case rest =>
      obtain ⟨rfl, h3⟩ := hcut
      clear c0 c1 c2 c3 c4 d0 d1 d2 d3 d4
      go_wp2_with fail
      go_roundw
      case rel => exact ⟨k + 1, by omega, by go_num, h3⟩
      case measure => simp [intOf]; omega
    · go_wp2_with fail
      go_ret
      exact ⟨rfl, hb⟩
theorem lwCells_own {w : World} {base g cp base' g' cp' : Nat} {es : List Ent} (h : OwnC w base g cp es) (h' : OwnC w base' g' cp' es) :
    Calls Try.prog 25 #[.slice (some ⟨g, 0, none⟩) es.length cp, .slice (some ⟨g', 0, none⟩) es.length cp'] w fun e w' => e = .returned (.bool true) ∧ Below w.heap.size w w' :=
  lwCells_same g 0 cp g' 0 cp' es w h.at h'.at h.lt.2 h'.lt.2 (Nat.le_trans h.caps.1 h.caps.2)
end Go.Proofs.Ytnncedndlhfdkac

/-
  The law FnCompact.
-/
namespace Go.Proofs.Ytnncedndlhfdkac.fnCompact
open Go.ChangeShapes Go.WideShapes Go.ChangeAt Go.RowKit Go.Deep
set_option linter.unusedVariables false
set_option linter.unusedSimpArgs false
set_option maxRecDepth 100000

theorem own : ownKnob Try.prog.godebug = none := by kernel_rfl
theorem laidOut : laidOutB Try.prog = true := by kernel_rfl

set_option maxHeartbeats 8000000 in
theorem walk (v : Value) (n : Nat) (w : World) (h : BytesIn w v n) :
    Calls Try.prog 5 #[v] w fun e w' => e = .returned (.bool true) ∧ Below w.heap.size w w' := by
  obtain ⟨a, cap, rfl⟩ := h.slice
  have hm := h.1
  have HB : Hid (BytesIn w (.slice a n cap) n) := h
  clear h
  by_cases hbig : 1048576 < n
  · have z : (1048576 : Int) < (n : Int) := by omega
    go_enter Try.func5, Try.ntmps5
    go_wp2_with fail
    go_ret
    exact ⟨rfl, Below.refl _ _⟩
  have z : ¬ (1048576 : Int) < (n : Int) := by omega
  have hn : n ≤ 1048576 := by omega
  go_enter Try.func5, Try.ntmps5
  go_wp2_with fail
  refine (drawMerge_core _ n w (HB.out.code hn)).mono ?_
  rintro e w1 ⟨g, cp, l, lo, hi, hh, rfl, hD⟩
  have s1 := hD.below.size
  have hg := hD.row.lt
  have hl := hD.len
  obtain ⟨W2, hW2⟩ : ∃ W2 : World, W2 = w1.alloc (Obj.cells #[.string lo, .bool hh, .string hi] 31) := ⟨_, rfl⟩
  have hb2 : Below w1.heap.size w1 W2 := by rw [hW2]; exact (Below.refl _ _).alloc (Nat.le_refl _) _
  have s2 : W2.heap.size = w1.heap.size + 1 := by rw [hW2]; simp
  have HM2 : Hid (RmsAt W2 g 0 l ∧ okM l ∧ (∀ es ∈ esM l, es.length ≤ 101)) := ⟨hD.at.below hb2 hg.2, hD.ok, hD.short⟩
  have HC2 : Hid (W2.cell? ⟨w1.heap.size, 0, none⟩ = some (.string lo) ∧ W2.cell? ⟨w1.heap.size, 1, none⟩ = some (.bool hh) ∧ W2.cell? ⟨w1.heap.size, 2, none⟩ = some (.string hi)) := by
    rw [hW2]; refine ⟨?_, ?_, ?_⟩ <;> simp
  have k2 : Below w.heap.size w W2 := hD.below.trans (hb2.mono s1)
  clear hD
  go_upto_region 4 with fail
  rw [← hW2]
  clear hW2
  go_wp2_with fail
  refine (implCompact_core g 0 cp l W2 HM2.out.1 HM2.out.2.1 (by omega) (by omega)).mono ?_
  rintro e w3 ⟨a5, n5, c5, R, rfl, hU, hR, hb3, hnone⟩
  have s3 := hb3.size
  obtain ⟨g5, cp5, hv5, hO5⟩ : ∃ g5 cp5, (Value.slice a5 n5 c5) = .slice (some ⟨g5, 0, none⟩) R.length cp5 ∧ OwnE w3 W2.heap.size g5 cp5 R := by
    rcases hU with ⟨h0, _⟩ | ⟨g5, cp5, h1, h2⟩
    · simp only [Value.slice.injEq] at h0
      obtain ⟨L, hL, hl⟩ := hnone h0.1
      have := mrg_short hL HM2.out.2.2
      omega
    · exact ⟨g5, cp5, h1, h2⟩
  rw [hv5]
  clear hv5 hU hnone
  have hcp5 : R.length ≤ cp5 ∧ cp5 ≤ maxLen := by
    rcases hO5.2 with ⟨h0, _⟩ | ⟨g', cap', cur, hv, _, _, hn, hcap, _, _⟩
    · cases h0
    · simp only [Value.slice.injEq, Option.some.injEq, Addr.mk.injEq, and_true, true_and] at hv
      obtain ⟨rfl, rfl⟩ := hv
      exact ⟨hn, hcap⟩
  have hokR : ∀ e ∈ R, e.ok := by
    intro e he
    obtain ⟨es, h1, h2⟩ := compact_mem hR e he
    obtain ⟨r, hr, rfl⟩ := List.mem_map.1 h1
    exact HM2.out.2.1 r hr e h2
  have hg5 := hO5.lt
  obtain ⟨W4, hW4⟩ : ∃ W4 : World, W4 = w3.alloc (Obj.cells #[.slice (some ⟨g5, 0, none⟩) R.length cp5] 40) := ⟨_, rfl⟩
  have hb4 : Below w3.heap.size w3 W4 := by rw [hW4]; exact (Below.refl _ _).alloc (Nat.le_refl _) _
  have s4 : W4.heap.size = w3.heap.size + 1 := by rw [hW4]; simp
  have k24 : Below W2.heap.size W2 W4 := hb3.trans (hb4.mono s3)
  have HR4 : Hid ((⟨g5, 0, cp5, R⟩ : Rm).at W4 ∧ (∀ e ∈ R, e.ok) ∧ CmpOf (esM l) R) := ⟨⟨hO5.at.below hb4 hg5.2, by show g5 < W4.heap.size; omega, hcp5.1, hcp5.2⟩, hokR, hR⟩
  have HC4 : Hid (W4.cell? ⟨w1.heap.size, 0, none⟩ = some (.string lo) ∧ W4.cell? ⟨w1.heap.size, 1, none⟩ = some (.bool hh) ∧ W4.cell? ⟨w1.heap.size, 2, none⟩ = some (.string hi) ∧ W4.cell? ⟨w3.heap.size, 0, none⟩ = some (.slice (some ⟨g5, 0, none⟩) R.length cp5)) := by
    refine ⟨?_, ?_, ?_, by rw [hW4]; simp⟩
    · rw [k24.cell (p := ⟨w1.heap.size, 0, none⟩) (by show w1.heap.size < W2.heap.size; omega)]; exact HC2.out.1
    · rw [k24.cell (p := ⟨w1.heap.size, 1, none⟩) (by show w1.heap.size < W2.heap.size; omega)]; exact HC2.out.2.1
    · rw [k24.cell (p := ⟨w1.heap.size, 2, none⟩) (by show w1.heap.size < W2.heap.size; omega)]; exact HC2.out.2.2
  have HM4 : Hid (RmsAt W4 g 0 l) := HM2.out.1.below k24 (by omega)
  have k4 : Below w.heap.size w W4 := k2.trans (k24.mono (by omega))
  clear hO5 hR hb3 hcp5 hokR
  go_upto_region 5 with fail
  rw [← hW4]
  clear hW4
  obtain ⟨q0, q1, q2, _⟩ := HC4.out
  go_wp2_with fail
  refine (specMerge_core g 0 cp l lo hi hh W4 HM4.out HM2.out.2.1 (by omega) (by omega)).mono ?_
  rintro e w5 ⟨gc, cc, W, rfl, hC5, hb5, _, hM5⟩
  have s5 := hb5.size
  have hgc := hC5.lt
  have HW5 : Hid (OwnC w5 W4.heap.size gc cc W ∧ MrgOf (esM l) (inR lo hh hi) W) := ⟨hC5, hM5⟩
  have HR5 : Hid ((⟨g5, 0, cp5, R⟩ : Rm).at w5) := HR4.out.1.below hb5
  have HC5 : Hid (w5.cell? ⟨w1.heap.size, 0, none⟩ = some (.string lo) ∧ w5.cell? ⟨w1.heap.size, 1, none⟩ = some (.bool hh) ∧ w5.cell? ⟨w1.heap.size, 2, none⟩ = some (.string hi) ∧ w5.cell? ⟨w3.heap.size, 0, none⟩ = some (.slice (some ⟨g5, 0, none⟩) R.length cp5)) := by
    refine ⟨?_, ?_, ?_, ?_⟩
    · rw [hb5.cell (p := ⟨w1.heap.size, 0, none⟩) (by show w1.heap.size < W4.heap.size; omega)]; exact HC4.out.1
    · rw [hb5.cell (p := ⟨w1.heap.size, 1, none⟩) (by show w1.heap.size < W4.heap.size; omega)]; exact HC4.out.2.1
    · rw [hb5.cell (p := ⟨w1.heap.size, 2, none⟩) (by show w1.heap.size < W4.heap.size; omega)]; exact HC4.out.2.2.1
    · rw [hb5.cell (p := ⟨w3.heap.size, 0, none⟩) (by show w3.heap.size < W4.heap.size; omega)]; exact HC4.out.2.2.2
  have k5 : Below w.heap.size w w5 := k4.trans (hb5.mono (by have := k4.size; omega))
  clear hC5 hM5 q0 q1 q2
  obtain ⟨_, _, _, q3⟩ := HC5.out
  go_wp2_with fail
  refine (specValidRun_core g5 0 cp5 R w5 HR5.out.ents HR4.out.2.1 HR5.out.lt HR5.out.len HR5.out.cap).mono ?_
  rintro e w6 ⟨r6, rfl, hr6, hb6⟩
  have s6 := hb6.size
  obtain rfl : r6 = true := hr6.2 (compact_shows (M := []) HR4.out.2.2 HM2.out.2.2 HW5.out.2).1
  clear hr6 q3
  obtain ⟨q0, q1, q2, q3⟩ : w6.cell? ⟨w1.heap.size, 0, none⟩ = some (.string lo) ∧ w6.cell? ⟨w1.heap.size, 1, none⟩ = some (.bool hh) ∧ w6.cell? ⟨w1.heap.size, 2, none⟩ = some (.string hi) ∧ w6.cell? ⟨w3.heap.size, 0, none⟩ = some (.slice (some ⟨g5, 0, none⟩) R.length cp5) := by
    refine ⟨?_, ?_, ?_, ?_⟩
    · rw [hb6.cell (p := ⟨w1.heap.size, 0, none⟩) (by show w1.heap.size < w5.heap.size; omega)]; exact HC5.out.1
    · rw [hb6.cell (p := ⟨w1.heap.size, 1, none⟩) (by show w1.heap.size < w5.heap.size; omega)]; exact HC5.out.2.1
    · rw [hb6.cell (p := ⟨w1.heap.size, 2, none⟩) (by show w1.heap.size < w5.heap.size; omega)]; exact HC5.out.2.2.1
    · rw [hb6.cell (p := ⟨w3.heap.size, 0, none⟩) (by show w3.heap.size < w5.heap.size; omega)]; exact HC5.out.2.2.2
  obtain ⟨W7, hW7⟩ : ∃ W7 : World, W7 = w6.alloc (Obj.cells #[.slice (some ⟨g5, 0, none⟩) R.length cp5] 40) := ⟨_, rfl⟩
  have hb7 : Below w6.heap.size w6 W7 := by rw [hW7]; exact (Below.refl _ _).alloc (Nat.le_refl _) _
  have s7 : W7.heap.size = w6.heap.size + 1 := by rw [hW7]; simp
  have HR7 : Hid (RmsAt W7 w6.heap.size 0 [⟨g5, 0, cp5, R⟩] ∧ okM [⟨g5, 0, cp5, R⟩]) := by
    refine ⟨?_, ?_⟩
    · intro i r hr
      cases i with
      | zero =>
        simp at hr
        subst hr
        exact ⟨by rw [hW7]; simp, (HR5.out.below hb6).below hb7⟩
      | succ i => simp at hr
    · intro r hr e he
      simp at hr
      subst hr
      exact HR4.out.2.1 e he
  have HW7 : Hid (OwnC W7 W4.heap.size gc cc W) := (HW5.out.1.below hb6 hgc.2).below hb7 (by omega)
  have k7 : Below w.heap.size w W7 := (k5.trans (hb6.mono (by have := k5.size; omega))).trans (hb7.mono (by have := k5.size; omega))
  have hlt : w1.heap.size < w6.heap.size := by omega
  have p0 : (w6.alloc (Obj.cells #[.slice (some ⟨g5, 0, none⟩) R.length cp5] 40)).cell? ⟨w1.heap.size, 0, none⟩ = some (.string lo) := by rw [← hW7, hb7.cell (p := ⟨w1.heap.size, 0, none⟩) hlt]; exact q0
  have p1 : (w6.alloc (Obj.cells #[.slice (some ⟨g5, 0, none⟩) R.length cp5] 40)).cell? ⟨w1.heap.size, 1, none⟩ = some (.bool hh) := by rw [← hW7, hb7.cell (p := ⟨w1.heap.size, 1, none⟩) hlt]; exact q1
  have p2 : (w6.alloc (Obj.cells #[.slice (some ⟨g5, 0, none⟩) R.length cp5] 40)).cell? ⟨w1.heap.size, 2, none⟩ = some (.string hi) := by rw [← hW7, hb7.cell (p := ⟨w1.heap.size, 2, none⟩) hlt]; exact q2
  go_wp2_with fail
  rw [← hW7]
  clear hW7 q0 q1 q2 q3 p0 p1 p2
  refine (implMerge_core w6.heap.size 0 1 [⟨g5, 0, cp5, R⟩] lo hi hh W7 HR7.out.1 HR7.out.2 (by omega) (by simp)).mono ?_
  rintro e w8 ⟨gm, cm, M, rfl, hC8, hb8, hM8⟩
  have s8 := hb8.size
  obtain rfl : M = W := (compact_shows HR4.out.2.2 HM2.out.2.2 HW5.out.2).2 hM8
  have HC8 : Hid (OwnC w8 W7.heap.size gm cm M ∧ OwnC w8 W4.heap.size gc cc M) := ⟨hC8, HW7.out.below hb8 (by omega)⟩
  have k8 : Below w.heap.size w w8 := k7.trans (hb8.mono (by have := k7.size; omega))
  clear hC8 hM8
  go_wp2_with fail
  refine (lwCells_own HC8.out.1 HC8.out.2).mono ?_
  rintro e w9 ⟨rfl, hb9⟩
  have k9 : Below w.heap.size w w9 := k8.trans (hb9.mono (by have := k8.size; omega))
  go_wp2_with fail
  go_ret
  exact ⟨rfl, k9⟩

theorem lifted (os : Os) (started : os.Started) (H : Type) (enc : TypeId × Value → H) :
    ReturnsInHanded {} Try.checked os 5 .any (Rows.fnCompactSpec.pre6 enc Try.prog Try.f5 Rows.fnCompactRow.domain false) (Rows.fnCompactSpec.post enc Try.prog Try.f5 false true false false) := by
  refine returnsInHanded_of_change (C := Try.checked) own started (by kernel_rfl) Try.func5
    (ChangeSpec.witness6 (enc := enc) (C := Try.checked) false ⟨#[], #[.slice none 0 0], []⟩ 8 (by kernel_rfl) (by kernel_rfl) (by kernel_rfl) (by kernel_rfl)) ?_
  intro W base args ds gs before hval0 hW hcnd _
  have hval : ∀ (j : Nat) t v, Try.f5.params[j]? = some t → args[j]? = some v → Value.okWide Try.prog W .any base t v := hval0
  have hW' := hW
  obtain ⟨p, q, hA0, hV, rfl, hfz, hnd⟩ := hW
  have hA : DataW.TrodAll enc Try.prog W 0 (fun _ => true) true Try.f5.params.toList args.toList ds p := hA0
  rw [Try.params5] at hA hval
  obtain ⟨v0, vs0, d0, ds0, p0, q0, hargs, rfl, rfl, h0, r0⟩ := trodAll_cons hA
  obtain ⟨rfl, rfl, rfl⟩ := trodAll_nil r0
  obtain rfl : args = #[v0] := by cases args; simp_all
  obtain ⟨rfl, rfl⟩ := trodVars_none hV
  have k0 := h0
  have lt0 : ∀ x ∈ p0, x.block < W.heap.size := by obtain ⟨m, hm⟩ := k0; exact DataW.trod_lt m _ _ _ hm
  obtain ⟨n, hin⟩ : ∃ n, BytesIn W v0 n := by
    obtain ⟨a0, len0, cap0, rfl⟩ := okWide_slice Try.underlying45 (hval 0 45 v0 rfl rfl)
    obtain ⟨fuel, hf⟩ := h0
    exact bytes_of_trod (by simpa [Value.cells] using hf) lt0
  clear hA0 hval0
  refine (walk v0 n W hin).mono fun e W' ⟨he, bel⟩ => ?_
  subst he
  exact ⟨_, rfl, _, _, _, [], _, [], hW', trodAll_mk1 (shut_bool Try.underlying4 _), (trodAll_cons_mk (Below.trod laidOut (by kernel_rfl) (of_decide_eq_true (by kernel_rfl)) k0 bel lt0) trodAll_mk0), rfl, bel.frame _, fun h => by cases h⟩

theorem over : Rows.fnCompactRow.holds Try.pinned (OpenSpec.ofChange Rows.fnCompactSpec) :=
  OpenClaim.holds_of_wide 5 Try.f5 rfl rfl rfl rfl rfl rfl rfl ⟨rfl, rfl, rfl, rfl, rfl⟩ rfl rfl rfl rfl rfl (by kernel_rfl) Try.func5 (by kernel_rfl)
    (of_decide_eq_true (by kernel_rfl)) (by unfold Func.isWrapper; first | (rw [if_pos (by decide +kernel)]; kernel_rfl) | (rw [if_neg (by decide +kernel)]; exact ⟨rfl, rfl⟩))
    (fun os started H enc _ => lifted os started H enc)

end Go.Proofs.Ytnncedndlhfdkac.fnCompact
namespace Go.Proofs.Ytnncedndlhfdkac
theorem fnCompact_holds : Rows.FnCompactSaid := fnCompact.over
#print axioms fnCompact_holds
end Go.Proofs.Ytnncedndlhfdkac

