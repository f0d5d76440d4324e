import Derived.Deep.RegionLaw
import Derived.Deep.AppendLies
import Derived.Test.YtkidabedcgngcaaGreatDoorPkAP
import Derived.Test.YtkidabedcgngcaaGreatDoorPkAQ
import Derived.Test.YtkidabedcgngcaaGreatDoorPkAA
import Derived.Test.YtkidabedcgngcaaGreatDoorPkAF
import Derived.Test.YtkidabedcgngcaaGreatDoorPkAE
/-
  The put of a cell; spec.l3Puts.
-/
namespace Go.Proofs.YtkidabedcgngcaaGreatDoor
open Go.ChangeShapes Go.WideShapes Go.ChangeAt Go.RowKit Go.Deep
set_option linter.unusedVariables false
set_option linter.unusedSimpArgs false
set_option maxRecDepth 100000

theorem ent_boxP (w : World) (e : Ent) : EntsAt (w.alloc (Obj.cells #[.string e.row, .string e.fam, .string e.qual, .int .u64 e.ts, .int .i64 e.kind, .string e.val] 102)) w.heap.size 0 [e] := by
  intro j y hy
  obtain rfl : j = 0 := by
    have := (List.getElem?_eq_some_iff.1 hy).1
    simpa using this
  simp at hy
  subst hy
  simp
/-- The put of a cell. -/
def putE (x : Ent) : Ent := { x with kind := 0 }
set_option maxHeartbeats 400000 in
theorem specPut_any (e : Ent) (w : World) :
    Calls Tryz.prog 96 #[.agg #[.string e.row, .string e.fam, .string e.qual, .int .u64 e.ts, .string e.val]] w fun r w' => r = .returned (putE e).v ∧ Below w.heap.size w w' := by
  go_enter Tryz.func96, Tryz.ntmps96
  go_wp2
  refine bodyPost_ret (v := (putE e).v) (by simp [results, Tryz.results96, go_sem, putE]) rfl ⟨rfl, ?_⟩
  exact ((Below.refl _ _).alloc (Nat.le_refl _) _).alloc (by simp) _
set_option maxHeartbeats 400000 in
theorem implPut_any (e : Ent) (w : World) :
    Calls Tryz.prog 59 #[.agg #[.string e.row, .string e.fam, .string e.qual, .int .u64 e.ts, .string e.val]] w fun r w' => r = .returned (putE e).v ∧ Below w.heap.size w w' := by
  go_enter Tryz.func59, Tryz.ntmps59
  go_wp2
  refine bodyPost_ret (v := (putE e).v) (by simp [results, Tryz.results59, go_sem, putE]) rfl ⟨rfl, ?_⟩
  exact ((Below.refl _ _).alloc (Nat.le_refl _) _).alloc (by simp) _

/-- One entry appended, at a step of a region that draws. -/
theorem step_append_ent {ops : Array Oper} {o : Oper} {a : Act} {K : Act → World → Prop} {Q : Exit → Act → World → Prop} {E : Prop} (w : World) (hgd : o.guard = none) (s x : Operand)
    (ho : o.op = .call { callee := .builtin .append, args := #[s, x], argTypes := #[88, 88] })
    (base g cp n blk : Nat) (fs : List Ent) (e : Ent) (hn : n = fs.length) (hs : a.eval s = .slice (some ⟨g, 0, none⟩) n cp) (hx : a.eval x = .slice (some ⟨blk, 0, none⟩) 1 1) (hO : OwnE w base g cp fs)
    (hc : EntsAt w blk 0 [e]) (hlen : fs.length ≤ 2 ^ 30) (hbase : base ≤ w.heap.size)
    (h : ∀ g' cp' w', OwnE w' base g' cp' (fs ++ [e]) → w.grownBy w' (some g) → (g = g' ∨ g' = w.heap.size) → K (a.put o.dst (.slice (some ⟨g', 0, none⟩) (n + 1) cp')) w') : if Region.wanted o (yielded ops a.tmps) = true then Oper.wp Tryz.prog o a w K Q else E := by
  subst hn
  obtain ⟨i, hi, hz0, hz1, hz2⟩ := info_parts Tryz.infoEnt
  obtain ⟨c0, c1, c2, c3, c4, c5⟩ := hc 0 e rfl
  refine step_append_lies w hgd s x 88 ho base 102 i _ 6 80 Tryz.underlying88 hi hz0 hz1 hz2 rfl (by decide) (.slice (some ⟨g, 0, none⟩) fs.length cp) fs.length (cellsE fs) hs hO ⟨blk, 0, none⟩ 1 1 (cellsE [e]) hx rfl ?_ ?_ (by decide) ?_ ?_ hbase w.heap.size rfl ?_
  · intro j u hu
    have hj : j < 6 := by
      have := (List.getElem?_eq_some_iff.1 hu).1
      rw [length_cellsE] at this
      simpa using this
    rw [Addr.add_mid, Nat.zero_add]
    simp only [Nat.zero_mul, Nat.zero_add] at c0 c1 c2 c3 c4 c5
    match j, hj, hu with
    | 0, _, hu => simp [cellsE] at hu; rw [← hu]; exact c0
    | 1, _, hu => simp [cellsE] at hu; rw [← hu]; exact c1
    | 2, _, hu => simp [cellsE] at hu; rw [← hu]; exact c2
    | 3, _, hu => simp [cellsE] at hu; rw [← hu]; exact c3
    | 4, _, hu => simp [cellsE] at hu; rw [← hu]; exact c4
    | 5, _, hu => simp [cellsE] at hu; rw [← hu]; exact c5
  · intro u hu
    simp [cellsE] at hu
    rcases hu with rfl | rfl | rfl | rfl | rfl | rfl <;> rfl
  · unfold maxLen; omega
  · omega
  · intro g' cp' w' hO' hgr hat hlt
    refine h g' cp' w' ?_ hgr ?_
    · unfold OwnE
      rw [List.length_append, cellsE_append]
      exact hO'
    · rcases hat with q | q
      · exact .inl (by simpa [Value.ownBlock] using q)
      · exact .inr q
def putsTo (L : List Ent) (m : Nat) : List Ent := (L.take m).map putE
theorem putsTo_succ {L : List Ent} {m : Nat} {x : Ent} (h : L[m]? = some x) : putsTo L (m + 1) = putsTo L m ++ [putE x] := by
  unfold putsTo; rw [List.take_add_one, h]; simp
theorem putsTo_len {L : List Ent} {m : Nat} (h : m ≤ L.length) : (putsTo L m).length = m := by simp [putsTo]; omega
theorem putsTo_all {L : List Ent} {m : Nat} (h : L.length ≤ m) : putsTo L m = L.map putE := by unfold putsTo; rw [List.take_of_length_le h]

/-- How the putting stands. -/
structure PInv (w : World) (ov : Nat) (L : List Ent) (m g5 cp5 : Nat) (wr : World) : Prop where
  hdr : wr.cell? ⟨ov, 0, none⟩ = some (.slice (some ⟨g5, 0, none⟩) m cp5)
  free : wr.frozen? ⟨ov, 0, none⟩ = false
  lt : ov < wr.heap.size
  own : w.heap.size < ov
  row : OwnE wr w.heap.size g5 cp5 (putsTo L m)
  ne : ¬ g5 = ov
  new : w.heap.size < g5
  res : wr.cell? ⟨w.heap.size, 0, none⟩ = some (.slice none 0 0)
  rfree : wr.frozen? ⟨w.heap.size, 0, none⟩ = false
  below : Below w.heap.size w wr
theorem PInv.step {w : World} {ov : Nat} {L : List Ent} {m g5 cp5 : Nat} {wr w' : World} (h : PInv w ov L m g5 cp5 wr) (hb : Below wr.heap.size wr w') : PInv w ov L m g5 cp5 w' where
  hdr := by rw [hb.cell (p := ⟨ov, 0, none⟩) h.lt]; exact h.hdr
  free := by rw [hb.frozen (p := ⟨ov, 0, none⟩) h.lt]; exact h.free
  lt := by have := hb.size; have := h.lt; omega
  own := h.own
  row := h.row.below hb h.row.lt.2
  ne := h.ne
  new := h.new
  res := by rw [hb.cell (p := ⟨w.heap.size, 0, none⟩) (by have := h.own; have := h.lt; show w.heap.size < wr.heap.size; omega)]; exact h.res
  rfree := by rw [hb.frozen (p := ⟨w.heap.size, 0, none⟩) (by have := h.own; have := h.lt; show w.heap.size < wr.heap.size; omega)]; exact h.rfree
  below := h.below.trans (hb.mono h.below.size)
theorem PInv.push {w : World} {ov : Nat} {L : List Ent} {m g5 cp5 : Nat} {wA w7 : World} (h : PInv w ov L m g5 cp5 wA) {x : Ent} (hx : L[m]? = some x) {g7 cp7 : Nat} (hO : OwnE w7 w.heap.size g7 cp7 (putsTo L m ++ [putE x])) (hgr : wA.grownBy w7 (some g5)) (hgg : g5 = g7 ∨ g7 = wA.heap.size) :
    PInv w ov L (m + 1) g7 cp7 (w7.setCell ⟨ov, 0, none⟩ (.slice (some ⟨g7, 0, none⟩) (m + 1) cp7)) ∧ w7.cell? ⟨ov, 0, none⟩ = some (.slice (some ⟨g5, 0, none⟩) m cp5) ∧ w7.frozen? ⟨ov, 0, none⟩ = false := by
  have hc7 : Chg (fun k => k = g5) wA w7 := Chg.of_grown hgr (fun k hk => by cases hk; rfl)
  have hc8 : Chg (fun k => k = ov) w7 (w7.setCell ⟨ov, 0, none⟩ (.slice (some ⟨g7, 0, none⟩) (m + 1) cp7)) := Chg.of_set _ _ _ _ rfl
  have s7 := hc7.size
  have s8 := hc8.size
  have hl := h.lt
  have ho := h.own
  have hn := h.new
  have c7 : w7.cell? ⟨ov, 0, none⟩ = some (.slice (some ⟨g5, 0, none⟩) m cp5) := by rw [hc7.cell (p := ⟨ov, 0, none⟩) hl (fun q => h.ne q.symm)]; exact h.hdr
  have f7 : w7.frozen? ⟨ov, 0, none⟩ = false := by rw [hc7.frozen (p := ⟨ov, 0, none⟩) hl (fun q => h.ne q.symm)]; exact h.free
  have hne7 : ¬ g7 = ov := by
    rcases hgg with q | q
    · rw [← q]; exact h.ne
    · omega
  refine ⟨?_, c7, f7⟩
  exact {
    hdr := World.cell?_setCell_same _ _ _ c7
    free := by rw [World.frozen?_setCell]; exact f7
    lt := by omega
    own := ho
    row := by
      rw [putsTo_succ hx]
      exact World.ownsRow.kept hO (grown_set w7 ov 0 _) (.inr (fun q => hne7 (Option.some.inj q)))
    ne := hne7
    new := by
      rcases hgg with q | q
      · rw [← q]; exact hn
      · omega
    res := by
      rw [hc8.cell (p := ⟨w.heap.size, 0, none⟩) (by show w.heap.size < w7.heap.size; omega) (by show ¬ w.heap.size = ov; omega), hc7.cell (p := ⟨w.heap.size, 0, none⟩) (by show w.heap.size < wA.heap.size; omega) (by show ¬ w.heap.size = g5; omega)]
      exact h.res
    rfree := by
      rw [hc8.frozen (p := ⟨w.heap.size, 0, none⟩) (by show w.heap.size < w7.heap.size; omega) (by show ¬ w.heap.size = ov; omega), hc7.frozen (p := ⟨w.heap.size, 0, none⟩) (by show w.heap.size < wA.heap.size; omega) (by show ¬ w.heap.size = g5; omega)]
      exact h.rfree
    below := Chg.below (Chg.below h.below hc7 h.below.size (fun k q => by omega)) hc8 (by omega) (fun k q => by omega) }

set_option maxHeartbeats 4000000 in
theorem puts_core (g cap : Nat) (L : List Ent) (base : Nat) (w : World) (hC : OwnC w base g cap L) (hn : L.length ≤ 1048576) :
    Calls Tryz.prog 52 #[.slice (some ⟨g, 0, none⟩) L.length cap] w fun r w' =>
      ∃ g' cp, r = .returned (.agg #[.slice (some ⟨g', 0, none⟩) L.length cp]) ∧ OwnE w' w.heap.size g' cp (L.map putE) ∧ Below w.heap.size w w' := by
  have HC : Hid (OwnC w base g cap L) := hC
  have hgl := hC.lt.2
  clear hC
  obtain ⟨Wa, hWa⟩ : ∃ Wa : World, Wa = w.alloc (Obj.cells #[.slice none 0 0] 90) := ⟨_, rfl⟩
  have hba : Below w.heap.size w Wa := by rw [hWa]; exact (Below.refl _ _).alloc (Nat.le_refl _) _
  have hza : Wa.heap.size = w.heap.size + 1 := by rw [hWa]; simp
  obtain ⟨Wb, hWb⟩ : ∃ Wb : World, Wb = Wa.alloc (Obj.cells #[] 102) := ⟨_, rfl⟩
  have hbb : Below Wa.heap.size Wa Wb := by rw [hWb]; exact (Below.refl _ _).alloc (Nat.le_refl _) _
  have hzb : Wb.heap.size = w.heap.size + 1 + 1 := by rw [hWb]; simp [hza]
  obtain ⟨Wc, hWc⟩ : ∃ Wc : World, Wc = Wb.alloc (Obj.cells #[.slice (some ⟨w.heap.size + 1, 0, none⟩) 0 0] 90) := ⟨_, rfl⟩
  have hbc : Below Wb.heap.size Wb Wc := by rw [hWc]; exact (Below.refl _ _).alloc (Nat.le_refl _) _
  have hzc : Wc.heap.size = w.heap.size + 1 + 1 + 1 := by rw [hWc]; simp [hzb]
  have HP : Hid (PInv w (w.heap.size + 1 + 1) L 0 (w.heap.size + 1) 0 Wc) := by
    have k1 : Below Wa.heap.size Wa Wc := hbb.trans (hbc.mono (by omega))
    exact {
      hdr := by rw [hWc, ← hzb]; simp
      free := by
        rw [hWc, ← hzb]
        exact World.ownsRow.frozenAt (World.ownsRow_lit (base := 0) (e := 90) (size := 1) Wb #[.slice (some ⟨w.heap.size + 1, 0, none⟩) 0 0] 1 (Nat.zero_le _) (by decide) rfl) 0
      lt := by omega
      own := by omega
      row := by
        have h0 : OwnE Wb w.heap.size (w.heap.size + 1) 0 [] := by
          rw [hWb, ← hza]
          exact World.ownsRow_made Wa #[] 0 (by omega) (Nat.zero_le _) (by simp)
        exact h0.below hbc (by omega)
      ne := by omega
      new := by omega
      res := by
        rw [k1.cell (p := ⟨w.heap.size, 0, none⟩) (by show w.heap.size < Wa.heap.size; omega), hWa]; simp
      rfree := by
        rw [k1.frozen (p := ⟨w.heap.size, 0, none⟩) (by show w.heap.size < Wa.heap.size; omega), hWa]
        exact World.ownsRow.frozenAt (World.ownsRow_lit (base := 0) (e := 90) (size := 1) w #[.slice none 0 0] 1 (Nat.zero_le _) (by decide) rfl) 0
      below := hba.trans (k1.mono (by omega)) }
  go_enter Tryz.func52, Tryz.ntmps52
  go_wp2_with fail
  rw [← hWa, ← hWb, ← hWc]
  clear hWa hWb hWc hba hbb hbc
  generalize w.heap.size + 1 + 1 = ov at *
  generalize w.heap.size + 1 = g0 at *
  go_loopw [4] (fun i wr => ∃ (m g5 cp5 : Nat), m ≤ L.length ∧ i = .int .i64 m ∧ PInv w ov L m g5 cp5 wr) (fun i _ => L.length - (intOf i).toNat)
  case atStart => exact ⟨0, _, _, Nat.zero_le _, rfl, HP.out⟩
  case round =>
    obtain ⟨m, g5, cp5, hm, rfl, hI⟩ := hrel
    have HI : Hid (PInv w ov L m g5 cp5 wr) := hI
    have hbw := hI.below
    have hsw := hbw.size
    have h0 := hI.hdr
    have hf0 := hI.free
    have hgl5 := hI.row.lt.2
    have hlo := hI.lt
    clear hI HP
    by_cases hlt : m < L.length
    · obtain ⟨x, hx⟩ : ∃ x, L[m]? = some x := ⟨_, List.getElem?_eq_getElem hlt⟩
      obtain ⟨c0, c1, c2, c3, c4⟩ := (HC.out.below hbw hgl).at m x hx
      simp only [Nat.zero_add, Nat.zero_mul] at c0 c1 c2 c3 c4
      have HX : Hid (L[m]? = some x ∧ CelsAt wr g 0 L) := ⟨hx, (HC.out.below hbw hgl).at⟩
      have HTM : Hid (m = (putsTo L m).length) := (putsTo_len hm).symm
      have hpl : (putsTo L m).length ≤ 2 ^ 30 := by rw [← HTM.out]; omega
      clear hx
      have zm : (m : Int) < (L.length : Int) := by omega
      have ngo : g ≠ ov := by have := HI.out.own; omega
      have hgr0 : g < wr.heap.size := by omega
      go_upto_region 5 with fail
      go_region_law ((first
                | (go_simp; go_at_call 96; refine (specPut_any x _).mono ?_; rintro e' w6 ⟨rfl, hb6⟩; have hq6 : Below wr.heap.size wr w6 := ((Below.refl wr.heap.size wr).drew).trans hb6; have m6 := (HI.out.step hq6).hdr; have m6a : ∀ o, (w6.alloc o).cell? ⟨ov, 0, none⟩ = some (.slice (some ⟨g5, 0, none⟩) m cp5) := fun o => by { rw [((Below.refl w6.heap.size w6).alloc (Nat.le_refl _) o).cell (p := ⟨ov, 0, none⟩) (Nat.lt_of_lt_of_le hlo hq6.size)]; exact m6 })
                | (refine step_append_ent _ (by rfl) _ _ (by rfl) w.heap.size g5 cp5 m w6.heap.size (putsTo L m) (putE x) HTM.out (by rfl) (by rfl) ?hO ?hc hpl ?hb ?_
                   case hO => exact (HI.out.step hq6).row.below ((Below.refl _ _).alloc (Nat.le_refl _) _) (Nat.lt_of_lt_of_le hgl5 hq6.size)
                   case hc => exact ent_boxP w6 (putE x)
                   case hb => exact Nat.le_trans hsw (Nat.le_trans hq6.size (by simp))
                   intro g7 cp7 w7 hO7 hgr7 hgg7
                   have hpp := ((HI.out.step hq6).step ((Below.refl w6.heap.size w6).alloc (Nat.le_refl _) (Obj.cells #[.string (putE x).row, .string (putE x).fam, .string (putE x).qual, .int .u64 (putE x).ts, .int .i64 (putE x).kind, .string (putE x).val] 102))).push HX.out.1 hO7 hgr7 (by simpa using hgg7)
                   have fin7 : Hid (PInv w ov L (m + 1) g7 cp7 (w7.setCell ⟨ov, 0, none⟩ (.slice (some ⟨g7, 0, none⟩) (m + 1) cp7))) := hpp.1
                   have m7 := hpp.2.1
                   have f7 := hpp.2.2
                   clear hpp hO7 hgr7 hgg7)))
      all_goals go_wp2_with fail
      all_goals go_roundw
      all_goals first
        | exact ⟨m + 1, g7, cp7, by omega, by go_num, fin7.out⟩
        | (go_light; simp [intOf]; omega)
    · have hml : m = L.length := by omega
      have HF : Hid (OwnE wr w.heap.size g5 cp5 (L.map putE)) := by have := HI.out.row; rw [putsTo_all (by omega)] at this; exact this
      have r0 := HI.out.res
      have rf := HI.out.rfree
      have HM : Hid (m = L.length) := hml
      have zm : ¬ (m : Int) < (L.length : Int) := by omega
      have hnew := HI.out.new
      clear hml
      go_wp2_with fail
      refine bodyPost_ret (v := .agg #[.slice (some ⟨g5, 0, none⟩) m cp5]) (by simp [results, Tryz.results52, go_sem, World.cell?_setCell_same _ _ _ r0]) rfl ⟨g5, cp5, by rw [HM.out], ?_, ?_⟩
      · exact World.ownsRow.kept HF.out (grown_set wr w.heap.size 0 _) (.inr (fun q => by have h2 : g5 = w.heap.size := Option.some.inj q; omega))
      · exact hbw.setCell (Nat.le_refl _) _

end Go.Proofs.YtkidabedcgngcaaGreatDoor

/-
  spec.l5Union.
-/
namespace Go.Proofs.YtkidabedcgngcaaGreatDoor
open Go.ChangeShapes Go.WideShapes Go.ChangeAt Go.RowKit Go.Deep
set_option linter.unusedVariables false
set_option linter.unusedSimpArgs false
set_option maxRecDepth 100000

theorem fold_len : ∀ (a L : List Ent), (a.foldl into L).length ≤ L.length + a.length
  | [], L => Nat.le_refl _
  | e :: a, L => by
    have h1 := fold_len a (into L e)
    have h2 := length_into L e
    show (a.foldl into (into L e)).length ≤ _
    simp only [List.length_cons]
    omega
set_option maxHeartbeats 8000000 in
theorem l5Union_core {w : World} {ba oa ca bb ob cb : Nat} {la lb : List Ent} (ha : CSl w ba oa ca la) (hb : CSl w bb ob cb lb) (hka : ∀ x ∈ la, x.kind = 0) (hkb : ∀ x ∈ lb, x.kind = 0) (hla : la.length ≤ 100000) (hlb : lb.length ≤ 100000) : Calls Tryz.prog 97 #[.slice (some ⟨ba, oa, none⟩) la.length ca, .slice (some ⟨bb, ob, none⟩) lb.length cb] w fun e w' => ∃ g cp, e = .returned (.slice (some ⟨g, 0, none⟩) (uniM la lb).length cp) ∧ OwnC w' w.heap.size g cp (uniM la lb) ∧ Below w.heap.size w w' := by
  obtain ⟨NA, hNA⟩ : ∃ N, N = la.length := ⟨_, rfl⟩
  obtain ⟨NB, hNB⟩ : ∃ N, N = lb.length := ⟨_, rfl⟩
  have HN : Hid (NA = la.length ∧ NB = lb.length) := ⟨hNA, hNB⟩
  have HNA : Hid (NA = la.length) := hNA
  have HNB : Hid (NB = lb.length) := hNB
  have HR : Hid ((∀ wx, Below w.heap.size w wx → CSl wx ba oa ca la) ∧ (∀ wx, Below w.heap.size w wx → CSl wx bb ob cb lb)) := ⟨fun wx hx => ha.below hx, fun wx hx => hb.below hx⟩
  have HK : Hid ((∀ x ∈ la, x.kind = 0) ∧ (∀ x ∈ lb, x.kind = 0)) := ⟨hka, hkb⟩
  have HO0 : Hid (OwnE (w.alloc (Obj.cells #[] 102)) w.heap.size w.heap.size 0 [] ∧ Below w.heap.size w (w.alloc (Obj.cells #[] 102))) := ⟨World.ownsRow_made w #[] 0 (Nat.le_refl _) (Nat.zero_le _) (by simp), (Below.refl _ _).alloc (Nat.le_refl _) _⟩
  have HPre : Hid ((lb.foldl into []).length ≤ 100000) := by
    show _ ≤ _
    have := fold_len lb []
    simp only [List.length_nil] at this
    omega
  obtain ⟨U, hU⟩ : ∃ U, U = uniM la lb := ⟨_, rfl⟩
  have HU : Hid (U = uniM la lb) := hU
  rw [← hU]
  clear hU
  rw [← hNA, ← hNB]
  rw [← hNA] at hla
  rw [← hNB] at hlb
  clear ha hb hka hkb hNA hNB
  go_enter Tryz.func97, Tryz.ntmps97
  go_wp2_with fail
  go_loopw [5, 6] (fun o iv wr => ∃ (i g cp m : Nat), i ≤ NB ∧ iv = .int .i64 (i : Int) ∧ o = .slice (some ⟨g, 0, none⟩) m cp ∧ Hid (m = ((lb.take i).foldl into []).length ∧ OwnE wr w.heap.size g cp ((lb.take i).foldl into []) ∧ Below w.heap.size w wr)) (fun _ iv _ => NB - (intOf iv).toNat)
  case atStart => exact ⟨0, w.heap.size, 0, 0, Nat.zero_le _, rfl, rfl, rfl, HO0.out.1, HO0.out.2⟩
  case round =>
    obtain ⟨i, g, cp, m, hiN, rfl, rfl, HJ⟩ := hrel
    by_cases hlt : i < NB
    · have zi : (i : Int) < (NB : Int) := by omega
      obtain ⟨c, hc⟩ : ∃ c, lb[i]? = some c := ⟨_, List.getElem?_eq_getElem (by have := HNB.out; omega)⟩
      have hck : c.kind = 0 := HK.out.2 c (List.mem_of_getElem? hc)
      have HP : Hid (putE c = c) := by show putE c = c; cases c; simp only [putE] at *; subst hck; rfl
      have HStep : Hid ((lb.take (i + 1)).foldl into [] = into ((lb.take i).foldl into []) c) := by
        show _ = _
        rw [List.take_add_one, hc, Option.toList_some, List.foldl_append]
        rfl
      have hml : m ≤ 1048576 := by
        rw [HJ.out.1]
        have := fold_len (lb.take i) []
        rw [List.length_take] at this
        simp only [List.length_nil] at this
        omega
      obtain ⟨c0, c1, c2, c3, c4⟩ := (HR.out.2 _ HJ.out.2.2).at_ i c hc
      have HPt : Hid (∀ wx : World, Calls Tryz.prog 96 #[.agg #[.string c.row, .string c.fam, .string c.qual, .int .u64 c.ts, .string c.val]] wx fun r w' => r = .returned (.agg #[.string c.row, .string c.fam, .string c.qual, .int .u64 c.ts, .int .i64 c.kind, .string c.val]) ∧ Below wx.heap.size wx w') := fun wx => by
        have := specPut_any c wx
        rw [HP.out] at this
        exact this
      go_wp2_with fail
      refine (HPt.out _).mono ?_
      rintro e w2 ⟨rfl, hb2⟩
      have HI : Hid (Calls Tryz.prog 113 #[.slice (some ⟨g, 0, none⟩) m cp, .agg #[.string c.row, .string c.fam, .string c.qual, .int .u64 c.ts, .int .i64 c.kind, .string c.val]] w2 fun r w' => ∃ g cp, r = .returned (.slice (some ⟨g, 0, none⟩) ((lb.take (i + 1)).foldl into []).length cp) ∧ OwnE w' w.heap.size g cp ((lb.take (i + 1)).foldl into []) ∧ Below w.heap.size w w') := by
        have hO := HJ.out.2.1.below hb2 HJ.out.2.1.lt.2
        have h1 := into_core g 0 cp ((lb.take i).foldl into []) c w2 hO.at hO.lt.2 (by rw [← HJ.out.1]; omega)
        rw [HStep.out, HJ.out.1]
        refine h1.mono ?_
        rintro r w' ⟨g', cp', rfl, hO', hb'⟩
        have hz := HJ.out.2.2.size
        have hz2 := hb2.size
        exact ⟨g', cp', rfl, by
          rcases hO'.2 with ⟨q, _⟩ | ⟨g9, cap9, cur, hv, q1, q2⟩
          · cases q
          · exact ⟨hO'.1, .inr ⟨g9, cap9, cur, hv, by omega, q2⟩⟩, HJ.out.2.2.trans ((hb2.trans (hb'.mono hz2)).mono hz)⟩
      clear c0 c1 c2 c3 c4 hb2 hc hck
      go_wp2_with fail
      refine HI.out.mono ?_
      rintro e w3 ⟨g', cp', rfl, hO', hb3⟩
      have HJ2 : Hid (OwnE w3 w.heap.size g' cp' ((lb.take (i + 1)).foldl into []) ∧ Below w.heap.size w w3) := ⟨hO', hb3⟩
      clear hO' hb3 HI HPt
      go_wp2_with fail
      go_roundw
      case rel => exact ⟨i + 1, g', cp', _, by omega, by go_num, rfl, rfl, HJ2.out.1, HJ2.out.2⟩
      case measure => go_light; simp [intOf]; omega
    · obtain rfl : i = NB := by omega
      have zi : ¬ (i : Int) < (i : Int) := by omega
      have HJ1 : Hid (m = (lb.foldl into []).length ∧ OwnE wr w.heap.size g cp (lb.foldl into []) ∧ Below w.heap.size w wr) := by
        have := HJ.out
        rw [show lb.take i = lb by rw [HNB.out, List.take_length]] at this
        exact this
      clear HJ
      go_wp2_with fail
      go_loopw [5, 7] (fun o iv wr => ∃ (i g cp m : Nat), i ≤ NA ∧ iv = .int .i64 (i : Int) ∧ o = .slice (some ⟨g, 0, none⟩) m cp ∧ Hid (m = ((la.take i).foldl into (lb.foldl into [])).length ∧ OwnE wr w.heap.size g cp ((la.take i).foldl into (lb.foldl into [])) ∧ Below w.heap.size w wr)) (fun _ iv _ => NA - (intOf iv).toNat)
      case atStart => exact ⟨0, g, cp, m, Nat.zero_le _, rfl, rfl, HJ1.out.1, HJ1.out.2.1, HJ1.out.2.2⟩
      case round =>
        obtain ⟨i, g, cp, m, hiN, rfl, rfl, HJ⟩ := hrel
        by_cases hlt : i < NA
        · have zi : (i : Int) < (NA : Int) := by omega
          obtain ⟨c, hc⟩ : ∃ c, la[i]? = some c := ⟨_, List.getElem?_eq_getElem (by have := HNA.out; omega)⟩
          have hck : c.kind = 0 := HK.out.1 c (List.mem_of_getElem? hc)
          have HP : Hid (putE c = c) := by show putE c = c; cases c; simp only [putE] at *; subst hck; rfl
          have HStep : Hid ((la.take (i + 1)).foldl into (lb.foldl into []) = into ((la.take i).foldl into (lb.foldl into [])) c) := by
            show _ = _
            rw [List.take_add_one, hc, Option.toList_some, List.foldl_append]
            rfl
          have hml : m ≤ 1048576 := by
            rw [HJ.out.1]
            have := fold_len (la.take i) (lb.foldl into [])
            rw [List.length_take] at this
            have h0 := HPre.out
            omega
          obtain ⟨c0, c1, c2, c3, c4⟩ := (HR.out.1 _ HJ.out.2.2).at_ i c hc
          have HPt : Hid (∀ wx : World, Calls Tryz.prog 96 #[.agg #[.string c.row, .string c.fam, .string c.qual, .int .u64 c.ts, .string c.val]] wx fun r w' => r = .returned (.agg #[.string c.row, .string c.fam, .string c.qual, .int .u64 c.ts, .int .i64 c.kind, .string c.val]) ∧ Below wx.heap.size wx w') := fun wx => by
            have := specPut_any c wx
            rw [HP.out] at this
            exact this
          go_wp2_with fail
          refine (HPt.out _).mono ?_
          rintro e w2 ⟨rfl, hb2⟩
          have HI : Hid (Calls Tryz.prog 113 #[.slice (some ⟨g, 0, none⟩) m cp, .agg #[.string c.row, .string c.fam, .string c.qual, .int .u64 c.ts, .int .i64 c.kind, .string c.val]] w2 fun r w' => ∃ g cp, r = .returned (.slice (some ⟨g, 0, none⟩) ((la.take (i + 1)).foldl into (lb.foldl into [])).length cp) ∧ OwnE w' w.heap.size g cp ((la.take (i + 1)).foldl into (lb.foldl into [])) ∧ Below w.heap.size w w') := by
            have hO := HJ.out.2.1.below hb2 HJ.out.2.1.lt.2
            have h1 := into_core g 0 cp ((la.take i).foldl into (lb.foldl into [])) c w2 hO.at hO.lt.2 (by rw [← HJ.out.1]; omega)
            rw [HStep.out, HJ.out.1]
            refine h1.mono ?_
            rintro r w' ⟨g', cp', rfl, hO', hb'⟩
            have hz := HJ.out.2.2.size
            have hz2 := hb2.size
            exact ⟨g', cp', rfl, by
              rcases hO'.2 with ⟨q, _⟩ | ⟨g9, cap9, cur, hv, q1, q2⟩
              · cases q
              · exact ⟨hO'.1, .inr ⟨g9, cap9, cur, hv, by omega, q2⟩⟩, HJ.out.2.2.trans ((hb2.trans (hb'.mono hz2)).mono hz)⟩
          clear c0 c1 c2 c3 c4 hb2 hc hck
          go_wp2_with fail
          refine HI.out.mono ?_
          rintro e w3 ⟨g', cp', rfl, hO', hb3⟩
          have HJ2 : Hid (OwnE w3 w.heap.size g' cp' ((la.take (i + 1)).foldl into (lb.foldl into [])) ∧ Below w.heap.size w w3) := ⟨hO', hb3⟩
          clear hO' hb3 HI HPt
          go_wp2_with fail
          go_roundw
          case rel => exact ⟨i + 1, g', cp', _, by omega, by go_num, rfl, rfl, HJ2.out.1, HJ2.out.2⟩
          case measure => go_light; simp [intOf]; omega
        · obtain rfl : i = NA := by omega
          have zi : ¬ (i : Int) < (i : Int) := by omega
          have hUl : m ≤ 200000 := by
            rw [HJ.out.1]
            have := fold_len (la.take i) (lb.foldl into [])
            rw [List.length_take] at this
            have h0 := HPre.out
            omega
          obtain ⟨ob5, hob5⟩ : ∃ x, x = wr.heap.size := ⟨_, rfl⟩
          have HJ2 : Hid (m = U.length ∧ OwnE wr w.heap.size g cp U ∧ Below w.heap.size w wr) := by
            have := HJ.out
            rw [show la.take i = la by rw [HNA.out, List.take_length]] at this
            rw [HU.out]
            exact this
          clear HJ HJ1
          have HC0 : Hid (OwnC (wr.alloc (Obj.cells #[] 55)) w.heap.size wr.heap.size 0 [] ∧ Below wr.heap.size wr (wr.alloc (Obj.cells #[] 55))) := ⟨(ownC_new wr).mono HJ2.out.2.2.size, (Below.refl _ _).alloc (Nat.le_refl _) _⟩
          go_wp2_with fail
          go_loopw [8, 9] (fun o iv wx => ∃ (i g5 cp5 : Nat), i ≤ m ∧ iv = .int .i64 (i : Int) ∧ o = .slice (some ⟨g5, 0, none⟩) i cp5 ∧ Hid (i = (U.take i).length ∧ OwnC wx w.heap.size g5 cp5 (U.take i) ∧ OwnE wx w.heap.size g cp U ∧ Below w.heap.size w wx)) (fun _ iv _ => m - (intOf iv).toNat)
          case atStart => exact ⟨0, wr.heap.size, 0, Nat.zero_le _, rfl, rfl, rfl, HC0.out.1, HJ2.out.2.1.below HC0.out.2 HJ2.out.2.1.lt.2, HJ2.out.2.2.trans (HC0.out.2.mono HJ2.out.2.2.size)⟩
          case round =>
            obtain ⟨i, g5, cp5, him, rfl, rfl, HQ⟩ := hrel
            by_cases hlt2 : i < m
            · have zi2 : (i : Int) < (m : Int) := by omega
              obtain ⟨x, hx⟩ : ∃ x, U[i]? = some x := ⟨_, List.getElem?_eq_getElem (by have := HJ2.out.1; omega)⟩
              have HX : Hid (U.take (i + 1) = U.take i ++ [x]) := by show _ = _; rw [List.take_add_one, hx]; rfl
              obtain ⟨c0, c1, c2, c3, c4, c5⟩ := HQ.out.2.2.1.at i x hx
              simp only [Nat.zero_add] at c0 c1 c2 c3 c4 c5
              have hgl := HQ.out.2.2.1.lt
              have hg5 := HQ.out.2.1.lt
              have hbs := HQ.out.2.2.2.size
              have hne : ¬ g = g5 := fun q => own_apart HQ.out.2.1 HQ.out.2.2.1 (by decide) g5 rfl (by rw [← q]; rfl)
              have HSc : Hid (∀ wx, Calls Tryz.prog 114 #[.agg #[.string x.row, .string x.fam, .string x.qual, .int .u64 x.ts, .int .i64 x.kind, .string x.val]] wx fun r w' => r = .returned x.c ∧ Below wx.heap.size wx w') := fun wx => specCell_any x wx
              clear hx
              go_wp2_with fail
              refine (HSc.out _).mono ?_
              rintro e w3 ⟨rfl, hb3⟩
              have hs3 := hb3.size
              have HM3 : Hid (OwnC w3 w.heap.size g5 cp5 (U.take i) ∧ OwnE w3 w.heap.size g cp U ∧ Below w.heap.size w w3) := ⟨HQ.out.2.1.below hb3 hg5.2, HQ.out.2.2.1.below hb3 hgl.2, HQ.out.2.2.2.trans (hb3.mono hbs)⟩
              have HTM : Hid (i = (U.take i).length) := HQ.out.1
              clear c0 c1 c2 c3 c4 c5 hb3
              go_wp2_with (at_builtin; refine wpList_append_cel _ rfl _ _ rfl w.heap.size g5 cp5 _ _ (U.take i) x rfl rfl HTM.out ?hO ?hc ?hl ?hb ?_)
              case hO => exact HM3.out.1.below ((Below.refl _ _).alloc (Nat.le_refl _) _) (by omega)
              case hc => exact cel_new w3 x
              case hl => rw [← HTM.out]; omega
              case hb => simp; omega
              intro g' cp' w' hO' hgr
              have HN2 : Hid (i + 1 = (U.take (i + 1)).length ∧ OwnC w' w.heap.size g' cp' (U.take (i + 1)) ∧ OwnE w' w.heap.size g cp U ∧ Below w.heap.size w w') := by
                have hc' : Chg (fun k => k = g5) (w3.alloc (Obj.cells #[.string x.row, .string x.fam, .string x.qual, .int .u64 x.ts, .string x.val] 55)) w' := Chg.of_grown hgr (fun k q => by cases q; rfl)
                rw [HX.out]
                refine ⟨by rw [List.length_append, ← HTM.out]; rfl, hO', ?_, (HM3.out.2.2.alloc HM3.out.2.2.size _).grown hgr (by simp; omega) (fun j hj => by cases hj; omega)⟩
                exact own_chg (HM3.out.2.1.below ((Below.refl _ _).alloc (Nat.le_refl _) _) (by omega)) hc' (fun k q => by simp [Value.ownBlock] at q; subst q; exact hne)
              clear hO' hgr
              go_wp2_with fail
              go_roundw
              case rel => exact ⟨i + 1, g', cp', by omega, by go_num, rfl, HN2.out⟩
              case measure => go_light; simp [intOf]; omega
            · obtain rfl : i = m := by omega
              have zi2 : ¬ (i : Int) < (i : Int) := by omega
              have HT : Hid (U.take i = U) := by show U.take i = U; rw [HJ2.out.1, List.take_length]
              go_wp2_with fail
              go_ret
              refine ⟨g5, cp5, ?_, ?_, HQ.out.2.2.2⟩
              · rw [← HJ2.out.1]; rfl
              · have := HQ.out.2.1
                rw [HT.out] at this
                exact this
end Go.Proofs.YtkidabedcgngcaaGreatDoor

/-
  spec.l5Mean.
-/
namespace Go.Proofs.YtkidabedcgngcaaGreatDoor
open Go.ChangeShapes Go.WideShapes Go.ChangeAt Go.RowKit Go.Deep
set_option linter.unusedVariables false
set_option linter.unusedSimpArgs false
set_option maxRecDepth 100000

def MeP (t : CT) (es : List Ent) (w : World) (e : Ending) (w' : World) : Prop := ∃ g cp, e = .returned (.slice (some ⟨g, 0, none⟩) (mean t es).length cp) ∧ Hid (OwnC w' w.heap.size g cp (mean t es) ∧ Below w.heap.size w w')
def MeC (m : Nat) : Prop := ∀ (w : World) (b o cap : Nat) (xs : List Nd) (t : CT) (rb ro rc : Nat) (es : List Ent), xs.length ≤ m → Win w b o cap xs → TreeF xs t → (∀ x ∈ xs, x.s.size ≤ maxLen) → CSl w rb ro rc es → Sub es es → es.length ≤ 10000 →
  Calls Tryz.prog 54 #[.slice (some ⟨b, o, none⟩) xs.length cap, .slice (some ⟨rb, ro, none⟩) es.length rc] w (MeP t es w)
theorem treeF_isT {xs : List Nd} {t : CT} (h : TreeF xs t) : IsT 1 xs := by
  have := TrV.tree _ h
  exact this
/-- One operand. -/
structure KidC (m : Nat) (w : World) (v : Value) (t : CT) : Prop where
  call : ∀ (wx : World) (rb ro rc : Nat) (es : List Ent), Below w.heap.size w wx → CSl wx rb ro rc es → Sub es es → es.length ≤ 10000 → Calls Tryz.prog 54 #[v, .slice (some ⟨rb, ro, none⟩) es.length rc] wx (MeP t es wx)
theorem kidC_of {m : Nat} (H : MeC m) {w : World} {b o cap : Nat} {xs : List Nd} {t : CT} (hm : xs.length ≤ m) (hW : Win w b o cap xs) (hT : TreeF xs t) (hs : ∀ x ∈ xs, x.s.size ≤ maxLen) : KidC m w (.slice (some ⟨b, o, none⟩) xs.length cap) t :=
  ⟨fun wx rb ro rc es hb hC hS hl => H wx b o cap xs t rb ro rc es hm (hW.below hb) hT hs hC hS hl⟩
set_option maxHeartbeats 4000000 in
theorem mean_chain {m : Nat} (H : MeC m) (n : Nd) (w : World) (b o cap rb ro rc : Nat) (es : List Ent) {ta tb : CT} {ka kb : List Nd} (hk : n.kind = 14) (ha : TreeF ka ta) (hb : TreeF kb tb) (hm : (ka ++ kb ++ [n]).length ≤ m + 1) (hW : Win w b o cap (ka ++ kb ++ [n])) (hsz : ∀ x ∈ ka ++ kb ++ [n], x.s.size ≤ maxLen) (hC : CSl w rb ro rc es) (hS : Sub es es) (hel : es.length ≤ 10000) :
    Calls Tryz.prog 54 #[.slice (some ⟨b, o, none⟩) (ka ++ kb ++ [n]).length cap, .slice (some ⟨rb, ro, none⟩) es.length rc] w (MeP (.chain n ta tb) es w) := by
  have e0 : ka ++ kb ++ [n] = ([ka, kb] : List (List Nd)).flatten ++ [n] := by simp
  rw [e0] at hW hm hsz ⊢
  have HKs : Hid (Calls Tryz.prog 91 #[.slice (some ⟨b, o, none⟩) (([ka, kb] : List (List Nd)).flatten.length + 1) cap] w fun r w' => ∃ g cp, r = .returned (.slice (some ⟨g, 0, none⟩) 2 cp) ∧ OwnV w' w.heap.size g cp (kidVs b o cap [ka, kb]) ∧ Below w.heap.size w w') :=
    l5Kids_core hW (by show 2 = arity n.kind; rw [hk]; rfl) (by
      intro k hkm
      simp only [List.mem_cons, List.not_mem_nil, or_false] at hkm
      rcases hkm with rfl | rfl
      · exact treeF_isT ha
      · exact treeF_isT hb)
  have HTp : Hid (∀ wx, Below w.heap.size w wx → Calls Tryz.prog 90 #[.slice (some ⟨b, o, none⟩) (([ka, kb] : List (List Nd)).flatten.length + 1) cap] wx fun r w' => r = .returned (.int .i64 n.kind) ∧ w' = wx) := fun wx hx => l5Top_core (hW.below hx)
  obtain ⟨o0, cap0, hv0, hW0⟩ := kidVs_nth hW (j := 0) (k := ka) rfl
  have g0 : ka.length ≤ ([ka, kb] : List (List Nd)).flatten.length := by simp only [List.flatten_cons, List.flatten_nil, List.length_append, List.length_nil]; omega
  have gm0 : ka.length ≤ m := by have h9 := hm; rw [List.length_append, List.length_singleton] at h9; omega
  have HK0 : Hid (KidC m w (.slice (some ⟨b, o0, none⟩) ka.length cap0) ta) := kidC_of H gm0 hW0 ha (fun x hx => hsz x (by simp [hx]))
  have hkl0 : ka.length ≤ cap := by have h9 := hW.len; rw [List.length_append, List.length_singleton] at h9; omega
  obtain ⟨l0, hl0⟩ : ∃ l, l = ka.length := ⟨_, rfl⟩
  rw [← hl0] at HK0 hv0 hkl0
  clear g0 gm0
  obtain ⟨o1, cap1, hv1, hW1⟩ := kidVs_nth hW (j := 1) (k := kb) rfl
  have g1 : kb.length ≤ ([ka, kb] : List (List Nd)).flatten.length := by simp only [List.flatten_cons, List.flatten_nil, List.length_append, List.length_nil]; omega
  have gm1 : kb.length ≤ m := by have h9 := hm; rw [List.length_append, List.length_singleton] at h9; omega
  have HK1 : Hid (KidC m w (.slice (some ⟨b, o1, none⟩) kb.length cap1) tb) := kidC_of H gm1 hW1 hb (fun x hx => hsz x (by simp [hx]))
  have hkl1 : kb.length ≤ cap := by have h9 := hW.len; rw [List.length_append, List.length_singleton] at h9; omega
  obtain ⟨l1, hl1⟩ : ∃ l, l = kb.length := ⟨_, rfl⟩
  rw [← hl1] at HK1 hv1 hkl1
  clear g1 gm1
  rw [List.length_append, List.length_singleton]
  obtain ⟨L, hL⟩ : ∃ L, L = ([ka, kb] : List (List Nd)).flatten.length := ⟨_, rfl⟩
  rw [← hL] at HKs HTp ⊢
  have hcp := hW.cap
  have hLc : L + 1 ≤ cap := by have h9 := hW.len; rw [List.length_append, List.length_singleton] at h9; omega
  obtain ⟨kd, hkd⟩ : ∃ kd, kd = n.kind := ⟨_, rfl⟩
  rw [← hkd] at hk HTp
  subst hk
  have HR : Hid (CSl w rb ro rc es ∧ Sub es es ∧ es.length ≤ 10000) := ⟨hC, hS, hel⟩
  obtain ⟨N, hN⟩ : ∃ N, N = es.length := ⟨_, rfl⟩
  have HNl : Hid (N = es.length) := hN
  rw [← hN]
  clear hW hm hsz e0 hL hW0 hl0 hW1 hl1 hC hS hel hN
  go_enter Tryz.func54, Tryz.ntmps54
  go_wp2_with fail
  refine HKs.out.mono ?_
  rintro r w1 ⟨g, cp, rfl, hO, hb1⟩
  have HO1 : Hid (OwnV w1 w.heap.size g cp (kidVs b o cap [ka, kb]) ∧ Below w.heap.size w w1) := ⟨hO, hb1⟩
  have HT1 := HTp.out w1 hb1
  have HTp1 : Hid (Calls Tryz.prog 90 #[.slice (some ⟨b, o, none⟩) (L + 1) cap] w1 fun r w' => r = .returned (.int .i64 14) ∧ w' = w1) := HT1
  clear HKs HT1 HTp hb1
  go_wp2_with fail
  refine HTp1.out.mono ?_
  rintro r w2 ⟨rfl, hw2⟩
  rw [hw2]
  clear hw2 HTp1
  have x0 : w1.cell? ⟨g, 0, none⟩ = some (.slice (some ⟨b, o0, none⟩) l0 cap0) := hO.cell hv0
  have x1 : w1.cell? ⟨g, 1, none⟩ = some (.slice (some ⟨b, o1, none⟩) l1 cap1) := hO.cell hv1
  have hgl := hO.lt.2
  clear hO hv0 hv1
  have hS0 : (fun w' : World => w'.cell? ⟨g, 0, none⟩ = some (.slice (some ⟨b, o0, none⟩) l0 cap0) ∧ w'.cell? ⟨g, 1, none⟩ = some (.slice (some ⟨b, o1, none⟩) l1 cap1)) w1.drew := ⟨x0, x1⟩
  have hd1 : Below w1.heap.size w1 w1.drew := (Below.refl _ _).drew
  have HBd : Hid (Below w.heap.size w w1.drew) := HO1.out.2.trans (hd1.mono HO1.out.2.size)
  have HC0 : Hid (Calls Tryz.prog 54 #[.slice (some ⟨b, o0, none⟩) l0 cap0, .slice (some ⟨rb, ro, none⟩) N rc] w1.drew (MeP ta es w1.drew)) := by
    rw [HNl.out]; exact HK0.out.call w1.drew rb ro rc es HBd.out (HR.out.1.below HBd.out) HR.out.2.1 HR.out.2.2
  go_upto_region 4 with fail
  refine wp_region_T 99 (fun w' : World => w'.cell? ⟨g, 0, none⟩ = some (.slice (some ⟨b, o0, none⟩) l0 cap0) ∧ w'.cell? ⟨g, 1, none⟩ = some (.slice (some ⟨b, o1, none⟩) l1 cap1)) (by kernel_rfl) ?_
  refine anyT_takeN (i := 0) (v := ?vmc0) rfl (by kernel_rfl) (by kernel_rfl) (by kernel_rfl) (by rfl) (fun _ _ _ h => h) (Or.inl ⟨by rfl, ?ymc0⟩) hS0 ?_
  case ymc0 => (intro wz hSw; obtain ⟨hz0, hz1⟩ := hSw; go_simp; (try with_reducible rfl))
  try simp only [Act.put, List.getElem_toArray, List.getElem_cons_zero, List.getElem_cons_succ, List.setIfInBounds_toArray, List.set_cons_zero, List.set_cons_succ]
  refine anyT_takeN (i := 1) (v := ?vmc1) rfl (by kernel_rfl) (by kernel_rfl) (by kernel_rfl) (by rfl) (fun _ _ _ h => h) (Or.inl ⟨by rfl, ?ymc1⟩) hS0 ?_
  case ymc1 => (intro wz hSw; obtain ⟨hz0, hz1⟩ := hSw; go_simp; (try with_reducible rfl))
  try simp only [Act.put, List.getElem_toArray, List.getElem_cons_zero, List.getElem_cons_succ, List.setIfInBounds_toArray, List.set_cons_zero, List.set_cons_succ]
  refine anyT_takeN (i := 2) (v := ?vmc2) rfl (by kernel_rfl) (by kernel_rfl) (by kernel_rfl) (by rfl) (fun _ _ _ h => h) (Or.inl ⟨by rfl, ?ymc2⟩) hS0 ?_
  case ymc2 => (intro wz hSw; obtain ⟨hz0, hz1⟩ := hSw; go_simp; (try with_reducible rfl))
  try simp only [Act.put, List.getElem_toArray, List.getElem_cons_zero, List.getElem_cons_succ, List.setIfInBounds_toArray, List.set_cons_zero, List.set_cons_succ]
  refine anyT_takeN (i := 3) (v := ?vmc3) rfl (by kernel_rfl) (by kernel_rfl) (by kernel_rfl) (by rfl) (fun _ _ _ h => h) (Or.inl ⟨by rfl, ?ymc3⟩) hS0 ?_
  case ymc3 => (intro wz hSw; obtain ⟨hz0, hz1⟩ := hSw; go_simp; (try with_reducible rfl))
  try simp only [Act.put, List.getElem_toArray, List.getElem_cons_zero, List.getElem_cons_succ, List.setIfInBounds_toArray, List.set_cons_zero, List.set_cons_succ]
  refine anyT_takeN (i := 4) (v := ?vmc4) rfl (by kernel_rfl) (by kernel_rfl) (by kernel_rfl) (by rfl) (fun _ _ _ h => h) (Or.inl ⟨by rfl, ?ymc4⟩) hS0 ?_
  case ymc4 => (intro wz hSw; obtain ⟨hz0, hz1⟩ := hSw; go_simp; (try with_reducible rfl))
  try simp only [Act.put, List.getElem_toArray, List.getElem_cons_zero, List.getElem_cons_succ, List.setIfInBounds_toArray, List.set_cons_zero, List.set_cons_succ]
  refine anyT_takeN (i := 5) (v := ?vmc5) rfl (by kernel_rfl) (by kernel_rfl) (by kernel_rfl) (by rfl) (fun _ _ _ h => h) (Or.inl ⟨by rfl, ?ymc5⟩) hS0 ?_
  case ymc5 => (intro wz hSw; obtain ⟨hz0, hz1⟩ := hSw; go_simp; (try with_reducible rfl))
  try simp only [Act.put, List.getElem_toArray, List.getElem_cons_zero, List.getElem_cons_succ, List.setIfInBounds_toArray, List.set_cons_zero, List.set_cons_succ]
  refine anyT_takeN (i := 6) (v := ?vmc6) rfl (by kernel_rfl) (by kernel_rfl) (by kernel_rfl) (by rfl) (fun _ _ _ h => h) (Or.inl ⟨by rfl, ?ymc6⟩) hS0 ?_
  case ymc6 => (intro wz hSw; obtain ⟨hz0, hz1⟩ := hSw; go_simp; (try with_reducible rfl))
  try simp only [Act.put, List.getElem_toArray, List.getElem_cons_zero, List.getElem_cons_succ, List.setIfInBounds_toArray, List.set_cons_zero, List.set_cons_succ]
  refine anyT_one (i := 7) (by kernel_rfl) rfl (fun K hK => ?_)
  go_simp
  go_at_call 54
  refine HC0.out.mono ?_
  rintro e w3 ⟨g3, cp3, rfl, H3⟩
  have hb3 : Below w1.heap.size w1 w3 := hd1.trans H3.out.2
  have hS3 : (fun w' : World => w'.cell? ⟨g, 0, none⟩ = some (.slice (some ⟨b, o0, none⟩) l0 cap0) ∧ w'.cell? ⟨g, 1, none⟩ = some (.slice (some ⟨b, o1, none⟩) l1 cap1)) w3 := ⟨by rw [(Chg.of_below hb3 (S := fun _ => False)).cell (p := ⟨g, 0, none⟩) hgl (fun q => q)]; exact x0, by rw [(Chg.of_below hb3 (S := fun _ => False)).cell (p := ⟨g, 1, none⟩) hgl (fun q => q)]; exact x1⟩
  have HB3 : Hid (Below w.heap.size w w3) := HO1.out.2.trans (hb3.mono HO1.out.2.size)
  have hsb := mean_sub ta HR.out.2.1
  have HC1 : Hid (Calls Tryz.prog 54 #[.slice (some ⟨b, o1, none⟩) l1 cap1, .slice (some ⟨g3, 0, none⟩) (mean ta es).length cp3] w3 (MeP tb (mean ta es) w3)) := HK1.out.call w3 g3 0 cp3 (mean ta es) HB3.out H3.out.1.sl hsb.self (by have h8 := hsb.len HR.out.2.1.ord; have h9 := HR.out.2.2; omega)
  clear hb3 hsb
  refine hK.out _ _ (.inr hS3) ?_
  clear hK
  try simp only [Act.put, List.getElem_toArray, List.getElem_cons_zero, List.getElem_cons_succ, List.setIfInBounds_toArray, List.set_cons_zero, List.set_cons_succ]
  refine anyT_one (i := 8) (by kernel_rfl) rfl (fun K hK => ?_)
  go_simp
  go_at_call 54
  refine HC1.out.mono ?_
  rintro e w4 ⟨g4, cp4, rfl, H4⟩
  have hS4 : (fun w' : World => w'.cell? ⟨g, 0, none⟩ = some (.slice (some ⟨b, o0, none⟩) l0 cap0) ∧ w'.cell? ⟨g, 1, none⟩ = some (.slice (some ⟨b, o1, none⟩) l1 cap1)) w4 := ⟨by rw [(Chg.of_below H4.out.2 (S := fun _ => False)).cell (p := ⟨g, 0, none⟩) (Nat.lt_of_lt_of_le hgl (Nat.le_trans hd1.size H3.out.2.size)) (fun q => q)]; exact hS3.1, by rw [(Chg.of_below H4.out.2 (S := fun _ => False)).cell (p := ⟨g, 1, none⟩) (Nat.lt_of_lt_of_le hgl (Nat.le_trans hd1.size H3.out.2.size)) (fun q => q)]; exact hS3.2⟩
  have HE : Hid (OwnC w4 w.heap.size g4 cp4 (mean (.chain n ta tb) es) ∧ Below w.heap.size w w4) := ⟨H4.out.1.mono HB3.out.size, HB3.out.trans (H4.out.2.mono HB3.out.size)⟩
  refine hK.out _ _ (.inr hS4) ?_
  clear hK
  try simp only [Act.put, List.getElem_toArray, List.getElem_cons_zero, List.getElem_cons_succ, List.setIfInBounds_toArray, List.set_cons_zero, List.set_cons_succ]
  refine anyT_takeN (i := 9) (v := ?vmc9) rfl (by kernel_rfl) (by kernel_rfl) (by kernel_rfl) (by rfl) (fun _ _ _ h => h) (Or.inl ⟨by rfl, ?ymc9⟩) hS4 ?_
  case ymc9 => (intro wz hSw; obtain ⟨hz0, hz1⟩ := hSw; go_simp; (try with_reducible rfl))
  try simp only [Act.put, List.getElem_toArray, List.getElem_cons_zero, List.getElem_cons_succ, List.setIfInBounds_toArray, List.set_cons_zero, List.set_cons_succ]
  refine anyT_done (by kernel_rfl) ?_
  go_wp2_with fail
  go_ret
  exact ⟨g4, cp4, rfl, HE.out⟩
set_option maxHeartbeats 4000000 in
theorem mean_inter {m : Nat} (H : MeC m) (n : Nd) (w : World) (b o cap rb ro rc : Nat) (es : List Ent) {ta tb : CT} {ka kb : List Nd} (hk : n.kind = 15) (ha : TreeF ka ta) (hb : TreeF kb tb) (hm : (ka ++ kb ++ [n]).length ≤ m + 1) (hW : Win w b o cap (ka ++ kb ++ [n])) (hsz : ∀ x ∈ ka ++ kb ++ [n], x.s.size ≤ maxLen) (hC : CSl w rb ro rc es) (hS : Sub es es) (hel : es.length ≤ 10000) :
    Calls Tryz.prog 54 #[.slice (some ⟨b, o, none⟩) (ka ++ kb ++ [n]).length cap, .slice (some ⟨rb, ro, none⟩) es.length rc] w (MeP (.inter n ta tb) es w) := by
  have e0 : ka ++ kb ++ [n] = ([ka, kb] : List (List Nd)).flatten ++ [n] := by simp
  rw [e0] at hW hm hsz ⊢
  have HKs : Hid (Calls Tryz.prog 91 #[.slice (some ⟨b, o, none⟩) (([ka, kb] : List (List Nd)).flatten.length + 1) cap] w fun r w' => ∃ g cp, r = .returned (.slice (some ⟨g, 0, none⟩) 2 cp) ∧ OwnV w' w.heap.size g cp (kidVs b o cap [ka, kb]) ∧ Below w.heap.size w w') :=
    l5Kids_core hW (by show 2 = arity n.kind; rw [hk]; rfl) (by
      intro k hkm
      simp only [List.mem_cons, List.not_mem_nil, or_false] at hkm
      rcases hkm with rfl | rfl
      · exact treeF_isT ha
      · exact treeF_isT hb)
  have HTp : Hid (∀ wx, Below w.heap.size w wx → Calls Tryz.prog 90 #[.slice (some ⟨b, o, none⟩) (([ka, kb] : List (List Nd)).flatten.length + 1) cap] wx fun r w' => r = .returned (.int .i64 n.kind) ∧ w' = wx) := fun wx hx => l5Top_core (hW.below hx)
  obtain ⟨o0, cap0, hv0, hW0⟩ := kidVs_nth hW (j := 0) (k := ka) rfl
  have g0 : ka.length ≤ ([ka, kb] : List (List Nd)).flatten.length := by simp only [List.flatten_cons, List.flatten_nil, List.length_append, List.length_nil]; omega
  have gm0 : ka.length ≤ m := by have h9 := hm; rw [List.length_append, List.length_singleton] at h9; omega
  have HK0 : Hid (KidC m w (.slice (some ⟨b, o0, none⟩) ka.length cap0) ta) := kidC_of H gm0 hW0 ha (fun x hx => hsz x (by simp [hx]))
  have hkl0 : ka.length ≤ cap := by have h9 := hW.len; rw [List.length_append, List.length_singleton] at h9; omega
  obtain ⟨l0, hl0⟩ : ∃ l, l = ka.length := ⟨_, rfl⟩
  rw [← hl0] at HK0 hv0 hkl0
  clear g0 gm0
  obtain ⟨o1, cap1, hv1, hW1⟩ := kidVs_nth hW (j := 1) (k := kb) rfl
  have g1 : kb.length ≤ ([ka, kb] : List (List Nd)).flatten.length := by simp only [List.flatten_cons, List.flatten_nil, List.length_append, List.length_nil]; omega
  have gm1 : kb.length ≤ m := by have h9 := hm; rw [List.length_append, List.length_singleton] at h9; omega
  have HK1 : Hid (KidC m w (.slice (some ⟨b, o1, none⟩) kb.length cap1) tb) := kidC_of H gm1 hW1 hb (fun x hx => hsz x (by simp [hx]))
  have hkl1 : kb.length ≤ cap := by have h9 := hW.len; rw [List.length_append, List.length_singleton] at h9; omega
  obtain ⟨l1, hl1⟩ : ∃ l, l = kb.length := ⟨_, rfl⟩
  rw [← hl1] at HK1 hv1 hkl1
  clear g1 gm1
  rw [List.length_append, List.length_singleton]
  obtain ⟨L, hL⟩ : ∃ L, L = ([ka, kb] : List (List Nd)).flatten.length := ⟨_, rfl⟩
  rw [← hL] at HKs HTp ⊢
  have hcp := hW.cap
  have hLc : L + 1 ≤ cap := by have h9 := hW.len; rw [List.length_append, List.length_singleton] at h9; omega
  obtain ⟨kd, hkd⟩ : ∃ kd, kd = n.kind := ⟨_, rfl⟩
  rw [← hkd] at hk HTp
  subst hk
  have HR : Hid (CSl w rb ro rc es ∧ Sub es es ∧ es.length ≤ 10000) := ⟨hC, hS, hel⟩
  obtain ⟨N, hN⟩ : ∃ N, N = es.length := ⟨_, rfl⟩
  have HNl : Hid (N = es.length) := hN
  rw [← hN]
  clear hW hm hsz e0 hL hW0 hl0 hW1 hl1 hC hS hel hN
  go_enter Tryz.func54, Tryz.ntmps54
  go_wp2_with fail
  refine HKs.out.mono ?_
  rintro r w1 ⟨g, cp, rfl, hO, hb1⟩
  have HO1 : Hid (OwnV w1 w.heap.size g cp (kidVs b o cap [ka, kb]) ∧ Below w.heap.size w w1) := ⟨hO, hb1⟩
  have HT1 := HTp.out w1 hb1
  have HTp1 : Hid (Calls Tryz.prog 90 #[.slice (some ⟨b, o, none⟩) (L + 1) cap] w1 fun r w' => r = .returned (.int .i64 15) ∧ w' = w1) := HT1
  clear HKs HT1 HTp hb1
  go_wp2_with fail
  refine HTp1.out.mono ?_
  rintro r w2 ⟨rfl, hw2⟩
  rw [hw2]
  clear hw2 HTp1
  have x0 : w1.cell? ⟨g, 0, none⟩ = some (.slice (some ⟨b, o0, none⟩) l0 cap0) := hO.cell hv0
  have x1 : w1.cell? ⟨g, 1, none⟩ = some (.slice (some ⟨b, o1, none⟩) l1 cap1) := hO.cell hv1
  have hgl := hO.lt.2
  clear hO hv0 hv1
  have hS0 : (fun w' : World => w'.cell? ⟨g, 0, none⟩ = some (.slice (some ⟨b, o0, none⟩) l0 cap0) ∧ w'.cell? ⟨g, 1, none⟩ = some (.slice (some ⟨b, o1, none⟩) l1 cap1)) w1.drew := ⟨x0, x1⟩
  have hd1 : Below w1.heap.size w1 w1.drew := (Below.refl _ _).drew
  have HBd : Hid (Below w.heap.size w w1.drew) := HO1.out.2.trans (hd1.mono HO1.out.2.size)
  have HC0 : Hid (Calls Tryz.prog 54 #[.slice (some ⟨b, o0, none⟩) l0 cap0, .slice (some ⟨rb, ro, none⟩) N rc] w1.drew (MeP ta es w1.drew)) := by
    rw [HNl.out]; exact HK0.out.call w1.drew rb ro rc es HBd.out (HR.out.1.below HBd.out) HR.out.2.1 HR.out.2.2
  go_upto_region 6 with fail
  refine wp_region_T 99 (fun w' : World => w'.cell? ⟨g, 0, none⟩ = some (.slice (some ⟨b, o0, none⟩) l0 cap0) ∧ w'.cell? ⟨g, 1, none⟩ = some (.slice (some ⟨b, o1, none⟩) l1 cap1)) (by kernel_rfl) ?_
  refine anyT_takeN (i := 0) (v := ?vmi0) rfl (by kernel_rfl) (by kernel_rfl) (by kernel_rfl) (by rfl) (fun _ _ _ h => h) (Or.inl ⟨by rfl, ?ymi0⟩) hS0 ?_
  case ymi0 => (intro wz hSw; obtain ⟨hz0, hz1⟩ := hSw; go_simp; (try with_reducible rfl))
  try simp only [Act.put, List.getElem_toArray, List.getElem_cons_zero, List.getElem_cons_succ, List.setIfInBounds_toArray, List.set_cons_zero, List.set_cons_succ]
  refine anyT_takeN (i := 1) (v := ?vmi1) rfl (by kernel_rfl) (by kernel_rfl) (by kernel_rfl) (by rfl) (fun _ _ _ h => h) (Or.inl ⟨by rfl, ?ymi1⟩) hS0 ?_
  case ymi1 => (intro wz hSw; obtain ⟨hz0, hz1⟩ := hSw; go_simp; (try with_reducible rfl))
  try simp only [Act.put, List.getElem_toArray, List.getElem_cons_zero, List.getElem_cons_succ, List.setIfInBounds_toArray, List.set_cons_zero, List.set_cons_succ]
  refine anyT_takeN (i := 2) (v := ?vmi2) rfl (by kernel_rfl) (by kernel_rfl) (by kernel_rfl) (by rfl) (fun _ _ _ h => h) (Or.inl ⟨by rfl, ?ymi2⟩) hS0 ?_
  case ymi2 => (intro wz hSw; obtain ⟨hz0, hz1⟩ := hSw; go_simp; (try with_reducible rfl))
  try simp only [Act.put, List.getElem_toArray, List.getElem_cons_zero, List.getElem_cons_succ, List.setIfInBounds_toArray, List.set_cons_zero, List.set_cons_succ]
  refine anyT_takeN (i := 3) (v := ?vmi3) rfl (by kernel_rfl) (by kernel_rfl) (by kernel_rfl) (by rfl) (fun _ _ _ h => h) (Or.inl ⟨by rfl, ?ymi3⟩) hS0 ?_
  case ymi3 => (intro wz hSw; obtain ⟨hz0, hz1⟩ := hSw; go_simp; (try with_reducible rfl))
  try simp only [Act.put, List.getElem_toArray, List.getElem_cons_zero, List.getElem_cons_succ, List.setIfInBounds_toArray, List.set_cons_zero, List.set_cons_succ]
  refine anyT_takeN (i := 5) (v := ?vmi5) rfl (by kernel_rfl) (by kernel_rfl) (by kernel_rfl) (by rfl) (fun _ _ _ h => h) (Or.inl ⟨by rfl, ?ymi5⟩) hS0 ?_
  case ymi5 => (intro wz hSw; obtain ⟨hz0, hz1⟩ := hSw; go_simp; (try with_reducible rfl))
  try simp only [Act.put, List.getElem_toArray, List.getElem_cons_zero, List.getElem_cons_succ, List.setIfInBounds_toArray, List.set_cons_zero, List.set_cons_succ]
  refine anyT_takeN (i := 6) (v := ?vmi6) rfl (by kernel_rfl) (by kernel_rfl) (by kernel_rfl) (by rfl) (fun _ _ _ h => h) (Or.inl ⟨by rfl, ?ymi6⟩) hS0 ?_
  case ymi6 => (intro wz hSw; obtain ⟨hz0, hz1⟩ := hSw; go_simp; (try with_reducible rfl))
  try simp only [Act.put, List.getElem_toArray, List.getElem_cons_zero, List.getElem_cons_succ, List.setIfInBounds_toArray, List.set_cons_zero, List.set_cons_succ]
  refine anyT_takeN (i := 7) (v := ?vmi7) rfl (by kernel_rfl) (by kernel_rfl) (by kernel_rfl) (by rfl) (fun _ _ _ h => h) (Or.inl ⟨by rfl, ?ymi7⟩) hS0 ?_
  case ymi7 => (intro wz hSw; obtain ⟨hz0, hz1⟩ := hSw; go_simp; (try with_reducible rfl))
  try simp only [Act.put, List.getElem_toArray, List.getElem_cons_zero, List.getElem_cons_succ, List.setIfInBounds_toArray, List.set_cons_zero, List.set_cons_succ]
  refine anyT_takeN (i := 8) (v := ?vmi8) rfl (by kernel_rfl) (by kernel_rfl) (by kernel_rfl) (by rfl) (fun _ _ _ h => h) (Or.inl ⟨by rfl, ?ymi8⟩) hS0 ?_
  case ymi8 => (intro wz hSw; obtain ⟨hz0, hz1⟩ := hSw; go_simp; (try with_reducible rfl))
  try simp only [Act.put, List.getElem_toArray, List.getElem_cons_zero, List.getElem_cons_succ, List.setIfInBounds_toArray, List.set_cons_zero, List.set_cons_succ]
  refine anyT_one (i := 4) (by kernel_rfl) rfl (fun K hK => ?_)
  go_simp
  go_at_call 54
  refine HC0.out.mono ?_
  rintro e w3 ⟨g3, cp3, rfl, H3⟩
  have hb3 : Below w1.heap.size w1 w3 := hd1.trans H3.out.2
  have hS3 : (fun w' : World => w'.cell? ⟨g, 0, none⟩ = some (.slice (some ⟨b, o0, none⟩) l0 cap0) ∧ w'.cell? ⟨g, 1, none⟩ = some (.slice (some ⟨b, o1, none⟩) l1 cap1)) w3 := ⟨by rw [(Chg.of_below hb3 (S := fun _ => False)).cell (p := ⟨g, 0, none⟩) hgl (fun q => q)]; exact x0, by rw [(Chg.of_below hb3 (S := fun _ => False)).cell (p := ⟨g, 1, none⟩) hgl (fun q => q)]; exact x1⟩
  have HB3 : Hid (Below w.heap.size w w3) := HO1.out.2.trans (hb3.mono HO1.out.2.size)
  have HC1 : Hid (Calls Tryz.prog 54 #[.slice (some ⟨b, o1, none⟩) l1 cap1, .slice (some ⟨rb, ro, none⟩) N rc] w3 (MeP tb es w3)) := by
    rw [HNl.out]; exact HK1.out.call w3 rb ro rc es HB3.out (HR.out.1.below HB3.out) HR.out.2.1 HR.out.2.2
  clear hb3
  refine hK.out _ _ (.inr hS3) ?_
  clear hK
  try simp only [Act.put, List.getElem_toArray, List.getElem_cons_zero, List.getElem_cons_succ, List.setIfInBounds_toArray, List.set_cons_zero, List.set_cons_succ]
  refine anyT_one (i := 9) (by kernel_rfl) rfl (fun K hK => ?_)
  go_simp
  go_at_call 54
  refine HC1.out.mono ?_
  rintro e w4 ⟨g4, cp4, rfl, H4⟩
  have hS4 : (fun w' : World => w'.cell? ⟨g, 0, none⟩ = some (.slice (some ⟨b, o0, none⟩) l0 cap0) ∧ w'.cell? ⟨g, 1, none⟩ = some (.slice (some ⟨b, o1, none⟩) l1 cap1)) w4 := ⟨by rw [(Chg.of_below H4.out.2 (S := fun _ => False)).cell (p := ⟨g, 0, none⟩) (Nat.lt_of_lt_of_le hgl (Nat.le_trans hd1.size H3.out.2.size)) (fun q => q)]; exact hS3.1, by rw [(Chg.of_below H4.out.2 (S := fun _ => False)).cell (p := ⟨g, 1, none⟩) (Nat.lt_of_lt_of_le hgl (Nat.le_trans hd1.size H3.out.2.size)) (fun q => q)]; exact hS3.2⟩
  have HB4 : Hid (Below w.heap.size w w4) := HB3.out.trans (H4.out.2.mono HB3.out.size)
  have HU : Hid (Calls Tryz.prog 97 #[.slice (some ⟨g3, 0, none⟩) (mean ta es).length cp3, .slice (some ⟨g4, 0, none⟩) (mean tb es).length cp4] w4 fun e w' => ∃ g cp, e = .returned (.slice (some ⟨g, 0, none⟩) (uniM (mean ta es) (mean tb es)).length cp) ∧ OwnC w' w4.heap.size g cp (uniM (mean ta es) (mean tb es)) ∧ Below w4.heap.size w4 w') := by
    have sa := mean_sub ta HR.out.2.1
    have sb' := mean_sub tb HR.out.2.1
    have la := sa.len HR.out.2.1.ord
    have lb := sb'.len HR.out.2.1.ord
    have le := HR.out.2.2
    exact l5Union_core (H3.out.1.sl.below H4.out.2) H4.out.1.sl sa.kind sb'.kind (by omega) (by omega)
  refine hK.out _ _ (.inr hS4) ?_
  clear hK
  try simp only [Act.put, List.getElem_toArray, List.getElem_cons_zero, List.getElem_cons_succ, List.setIfInBounds_toArray, List.set_cons_zero, List.set_cons_succ]
  refine anyT_one (i := 10) (by kernel_rfl) rfl (fun K hK => ?_)
  go_simp
  go_at_call 97
  refine HU.out.mono ?_
  rintro e w5 ⟨g5, cp5, rfl, hO5, hb5⟩
  have hz4 : g < w4.heap.size := Nat.lt_of_lt_of_le hgl (Nat.le_trans hd1.size (Nat.le_trans H3.out.2.size H4.out.2.size))
  have hS5 : (fun w' : World => w'.cell? ⟨g, 0, none⟩ = some (.slice (some ⟨b, o0, none⟩) l0 cap0) ∧ w'.cell? ⟨g, 1, none⟩ = some (.slice (some ⟨b, o1, none⟩) l1 cap1)) w5 := ⟨by rw [(Chg.of_below hb5 (S := fun _ => False)).cell (p := ⟨g, 0, none⟩) hz4 (fun q => q)]; exact hS4.1, by rw [(Chg.of_below hb5 (S := fun _ => False)).cell (p := ⟨g, 1, none⟩) hz4 (fun q => q)]; exact hS4.2⟩
  have HE : Hid (OwnC w5 w.heap.size g5 cp5 (mean (.inter n ta tb) es) ∧ Below w.heap.size w w5) := ⟨hO5.mono HB4.out.size, HB4.out.trans (hb5.mono HB4.out.size)⟩
  clear hO5 hb5 hz4
  refine hK.out _ _ (.inr hS5) ?_
  clear hK
  try simp only [Act.put, List.getElem_toArray, List.getElem_cons_zero, List.getElem_cons_succ, List.setIfInBounds_toArray, List.set_cons_zero, List.set_cons_succ]
  refine anyT_takeN (i := 11) (v := ?vmi11) rfl (by kernel_rfl) (by kernel_rfl) (by kernel_rfl) (by rfl) (fun _ _ _ h => h) (Or.inl ⟨by rfl, ?ymi11⟩) hS5 ?_
  case ymi11 => (intro wz hSw; obtain ⟨hz0, hz1⟩ := hSw; go_simp; (try with_reducible rfl))
  try simp only [Act.put, List.getElem_toArray, List.getElem_cons_zero, List.getElem_cons_succ, List.setIfInBounds_toArray, List.set_cons_zero, List.set_cons_succ]
  refine anyT_done (by kernel_rfl) ?_
  go_wp2_with fail
  go_ret
  exact ⟨g5, cp5, rfl, HE.out⟩
set_option maxHeartbeats 4000000 in
theorem mean_cond {m : Nat} (H : MeC m) (n : Nd) (w : World) (b o cap rb ro rc : Nat) (es : List Ent) {ta tb tc : CT} {ka kb kc : List Nd} (hk : n.kind = 16) (ha : TreeF ka ta) (hb : TreeF kb tb) (hc : TreeF kc tc) (hm : (ka ++ kb ++ kc ++ [n]).length ≤ m + 1) (hW : Win w b o cap (ka ++ kb ++ kc ++ [n])) (hsz : ∀ x ∈ ka ++ kb ++ kc ++ [n], x.s.size ≤ maxLen) (hC : CSl w rb ro rc es) (hS : Sub es es) (hel : es.length ≤ 10000) :
    Calls Tryz.prog 54 #[.slice (some ⟨b, o, none⟩) (ka ++ kb ++ kc ++ [n]).length cap, .slice (some ⟨rb, ro, none⟩) es.length rc] w (MeP (.cond n ta tb tc) es w) := by
  have e0 : ka ++ kb ++ kc ++ [n] = ([ka, kb, kc] : List (List Nd)).flatten ++ [n] := by simp
  rw [e0] at hW hm hsz ⊢
  have HKs : Hid (Calls Tryz.prog 91 #[.slice (some ⟨b, o, none⟩) (([ka, kb, kc] : List (List Nd)).flatten.length + 1) cap] w fun r w' => ∃ g cp, r = .returned (.slice (some ⟨g, 0, none⟩) 3 cp) ∧ OwnV w' w.heap.size g cp (kidVs b o cap [ka, kb, kc]) ∧ Below w.heap.size w w') :=
    l5Kids_core hW (by show 3 = arity n.kind; rw [hk]; rfl) (by
      intro k hkm
      simp only [List.mem_cons, List.not_mem_nil, or_false] at hkm
      rcases hkm with rfl | rfl | rfl
      · exact treeF_isT ha
      · exact treeF_isT hb
      · exact treeF_isT hc)
  have HTp : Hid (∀ wx, Below w.heap.size w wx → Calls Tryz.prog 90 #[.slice (some ⟨b, o, none⟩) (([ka, kb, kc] : List (List Nd)).flatten.length + 1) cap] wx fun r w' => r = .returned (.int .i64 n.kind) ∧ w' = wx) := fun wx hx => l5Top_core (hW.below hx)
  obtain ⟨o0, cap0, hv0, hW0⟩ := kidVs_nth hW (j := 0) (k := ka) rfl
  have g0 : ka.length ≤ ([ka, kb, kc] : List (List Nd)).flatten.length := by simp only [List.flatten_cons, List.flatten_nil, List.length_append, List.length_nil]; omega
  have gm0 : ka.length ≤ m := by have h9 := hm; rw [List.length_append, List.length_singleton] at h9; omega
  have HK0 : Hid (KidC m w (.slice (some ⟨b, o0, none⟩) ka.length cap0) ta) := kidC_of H gm0 hW0 ha (fun x hx => hsz x (by simp [hx]))
  have hkl0 : ka.length ≤ cap := by have h9 := hW.len; rw [List.length_append, List.length_singleton] at h9; omega
  obtain ⟨l0, hl0⟩ : ∃ l, l = ka.length := ⟨_, rfl⟩
  rw [← hl0] at HK0 hv0 hkl0
  clear g0 gm0
  obtain ⟨o1, cap1, hv1, hW1⟩ := kidVs_nth hW (j := 1) (k := kb) rfl
  have g1 : kb.length ≤ ([ka, kb, kc] : List (List Nd)).flatten.length := by simp only [List.flatten_cons, List.flatten_nil, List.length_append, List.length_nil]; omega
  have gm1 : kb.length ≤ m := by have h9 := hm; rw [List.length_append, List.length_singleton] at h9; omega
  have HK1 : Hid (KidC m w (.slice (some ⟨b, o1, none⟩) kb.length cap1) tb) := kidC_of H gm1 hW1 hb (fun x hx => hsz x (by simp [hx]))
  have hkl1 : kb.length ≤ cap := by have h9 := hW.len; rw [List.length_append, List.length_singleton] at h9; omega
  obtain ⟨l1, hl1⟩ : ∃ l, l = kb.length := ⟨_, rfl⟩
  rw [← hl1] at HK1 hv1 hkl1
  clear g1 gm1
  obtain ⟨o2, cap2, hv2, hW2⟩ := kidVs_nth hW (j := 2) (k := kc) rfl
  have g2 : kc.length ≤ ([ka, kb, kc] : List (List Nd)).flatten.length := by simp only [List.flatten_cons, List.flatten_nil, List.length_append, List.length_nil]; omega
  have gm2 : kc.length ≤ m := by have h9 := hm; rw [List.length_append, List.length_singleton] at h9; omega
  have HK2 : Hid (KidC m w (.slice (some ⟨b, o2, none⟩) kc.length cap2) tc) := kidC_of H gm2 hW2 hc (fun x hx => hsz x (by simp [hx]))
  have hkl2 : kc.length ≤ cap := by have h9 := hW.len; rw [List.length_append, List.length_singleton] at h9; omega
  obtain ⟨l2, hl2⟩ : ∃ l, l = kc.length := ⟨_, rfl⟩
  rw [← hl2] at HK2 hv2 hkl2
  clear g2 gm2
  rw [List.length_append, List.length_singleton]
  obtain ⟨L, hL⟩ : ∃ L, L = ([ka, kb, kc] : List (List Nd)).flatten.length := ⟨_, rfl⟩
  rw [← hL] at HKs HTp ⊢
  have hcp := hW.cap
  have hLc : L + 1 ≤ cap := by have h9 := hW.len; rw [List.length_append, List.length_singleton] at h9; omega
  obtain ⟨kd, hkd⟩ : ∃ kd, kd = n.kind := ⟨_, rfl⟩
  rw [← hkd] at hk HTp
  subst hk
  have HR : Hid (CSl w rb ro rc es ∧ Sub es es ∧ es.length ≤ 10000) := ⟨hC, hS, hel⟩
  obtain ⟨N, hN⟩ : ∃ N, N = es.length := ⟨_, rfl⟩
  have HNl : Hid (N = es.length) := hN
  rw [← hN]
  clear hW hm hsz e0 hL hW0 hl0 hW1 hl1 hW2 hl2 hC hS hel hN
  go_enter Tryz.func54, Tryz.ntmps54
  go_wp2_with fail
  refine HKs.out.mono ?_
  rintro r w1 ⟨g, cp, rfl, hO, hb1⟩
  have HO1 : Hid (OwnV w1 w.heap.size g cp (kidVs b o cap [ka, kb, kc]) ∧ Below w.heap.size w w1) := ⟨hO, hb1⟩
  have HT1 := HTp.out w1 hb1
  have HTp1 : Hid (Calls Tryz.prog 90 #[.slice (some ⟨b, o, none⟩) (L + 1) cap] w1 fun r w' => r = .returned (.int .i64 16) ∧ w' = w1) := HT1
  clear HKs HT1 HTp hb1
  go_wp2_with fail
  refine HTp1.out.mono ?_
  rintro r w2 ⟨rfl, hw2⟩
  rw [hw2]
  clear hw2 HTp1
  have x0 : w1.cell? ⟨g, 0, none⟩ = some (.slice (some ⟨b, o0, none⟩) l0 cap0) := hO.cell hv0
  have x1 : w1.cell? ⟨g, 1, none⟩ = some (.slice (some ⟨b, o1, none⟩) l1 cap1) := hO.cell hv1
  have x2 : w1.cell? ⟨g, 2, none⟩ = some (.slice (some ⟨b, o2, none⟩) l2 cap2) := hO.cell hv2
  have hgl := hO.lt.2
  clear hO hv0 hv1 hv2
  have HC0 : Hid (Calls Tryz.prog 54 #[.slice (some ⟨b, o0, none⟩) l0 cap0, .slice (some ⟨rb, ro, none⟩) N rc] w1 (MeP ta es w1)) := by
    rw [HNl.out]; exact HK0.out.call w1 rb ro rc es HO1.out.2 (HR.out.1.below HO1.out.2) HR.out.2.1 HR.out.2.2
  go_wp2_with fail
  refine HC0.out.mono ?_
  rintro e w3 ⟨g3, cp3, rfl, H3⟩
  have HB3 : Hid (Below w.heap.size w w3) := HO1.out.2.trans (H3.out.2.mono HO1.out.2.size)
  have y1 : w3.cell? ⟨g, 1, none⟩ = some (.slice (some ⟨b, o1, none⟩) l1 cap1) := by rw [(Chg.of_below H3.out.2 (S := fun _ => False)).cell (p := ⟨g, 1, none⟩) hgl (fun q => q)]; exact x1
  have y2 : w3.cell? ⟨g, 2, none⟩ = some (.slice (some ⟨b, o2, none⟩) l2 cap2) := by rw [(Chg.of_below H3.out.2 (S := fun _ => False)).cell (p := ⟨g, 2, none⟩) hgl (fun q => q)]; exact x2
  have hlp : (mean ta es).length ≤ 10000 := by have h8 := (mean_sub ta HR.out.2.1).len HR.out.2.1.ord; have h9 := HR.out.2.2; omega
  obtain ⟨P, hP⟩ : ∃ P, P = (mean ta es).length := ⟨_, rfl⟩
  have HP : Hid (P = (mean ta es).length) := hP
  rw [← hP] at hlp ⊢
  clear hP x0 x1 x2
  by_cases hz : P = 0
  · subst hz
    have HMe : Hid (mean (.cond n ta tb tc) es = mean tc es) := by
      show mean (.cond n ta tb tc) es = _
      have h0 : mean ta es = [] := List.length_eq_zero_iff.1 HP.out.symm
      conv => lhs; unfold mean
      rw [if_pos h0]
    have HC1 : Hid (Calls Tryz.prog 54 #[.slice (some ⟨b, o2, none⟩) l2 cap2, .slice (some ⟨rb, ro, none⟩) N rc] w3 (MeP tc es w3)) := by
      rw [HNl.out]; exact HK2.out.call w3 rb ro rc es HB3.out (HR.out.1.below HB3.out) HR.out.2.1 HR.out.2.2
    go_wp2_with fail
    refine HC1.out.mono ?_
    rintro e w4 ⟨g4, cp4, rfl, H4⟩
    have HE : Hid (OwnC w4 w.heap.size g4 cp4 (mean (.cond n ta tb tc) es) ∧ Below w.heap.size w w4) := by
      rw [HMe.out]; exact ⟨H4.out.1.mono HB3.out.size, HB3.out.trans (H4.out.2.mono HB3.out.size)⟩
    go_wp2_with fail
    go_ret
    exact ⟨g4, cp4, by rw [HMe.out]; rfl, HE.out⟩
  · have zp : (0 : Int) < (P : Int) := by omega
    have HMe : Hid (mean (.cond n ta tb tc) es = mean tb es) := by
      show mean (.cond n ta tb tc) es = _
      have h0 : ¬ mean ta es = [] := fun q => hz (by rw [HP.out, q]; rfl)
      conv => lhs; unfold mean
      rw [if_neg h0]
    have HC1 : Hid (Calls Tryz.prog 54 #[.slice (some ⟨b, o1, none⟩) l1 cap1, .slice (some ⟨rb, ro, none⟩) N rc] w3 (MeP tb es w3)) := by
      rw [HNl.out]; exact HK1.out.call w3 rb ro rc es HB3.out (HR.out.1.below HB3.out) HR.out.2.1 HR.out.2.2
    go_wp2_with fail
    refine HC1.out.mono ?_
    rintro e w4 ⟨g4, cp4, rfl, H4⟩
    have HE : Hid (OwnC w4 w.heap.size g4 cp4 (mean (.cond n ta tb tc) es) ∧ Below w.heap.size w w4) := by
      rw [HMe.out]; exact ⟨H4.out.1.mono HB3.out.size, HB3.out.trans (H4.out.2.mono HB3.out.size)⟩
    go_wp2_with fail
    go_ret
    exact ⟨g4, cp4, by rw [HMe.out]; rfl, HE.out⟩
set_option maxHeartbeats 4000000 in
theorem mean_leaf (n : Nd) (w : World) (b o cap rb ro rc : Nat) (es : List Ent) (hk : arity n.kind = 0) (hW : Win w b o cap [n]) (hsz : n.s.size ≤ maxLen) (hC : CSl w rb ro rc es) (hel : es.length ≤ 10000) :
    Calls Tryz.prog 54 #[.slice (some ⟨b, o, none⟩) 1 cap, .slice (some ⟨rb, ro, none⟩) es.length rc] w (MeP (.leaf n) es w) := by
  have HKs : Hid (Calls Tryz.prog 91 #[.slice (some ⟨b, o, none⟩) 1 cap] w fun r w' => ∃ g cp, r = .returned (.slice (some ⟨g, 0, none⟩) 0 cp) ∧ OwnV w' w.heap.size g cp (kidVs b o cap []) ∧ Below w.heap.size w w') := l5Kids_core (ks := []) hW (by rw [hk]; rfl) (fun k q => by simp at q)
  have HTp : Hid (∀ wx, Below w.heap.size w wx → Calls Tryz.prog 90 #[.slice (some ⟨b, o, none⟩) 1 cap] wx fun r w' => r = .returned (.int .i64 n.kind) ∧ w' = wx) := fun wx hx => l5Top_core (xs := []) (hW.below hx)
  have HW : Hid (Win w b o cap [n] ∧ CSl w rb ro rc es) := ⟨hW, hC⟩
  have HLf : Hid (∀ wx, Below w.heap.size w wx → Calls Tryz.prog 98 #[n.v, .slice (some ⟨rb, ro, none⟩) es.length rc] wx fun e w' => ∃ g cp, e = .returned (.slice (some ⟨g, 0, none⟩) (leafM n es).length cp) ∧ OwnC w' wx.heap.size g cp (leafM n es) ∧ Below wx.heap.size wx w') := fun wx hx => l5Leaf_core n hsz (hC.below hx) (by omega)
  have hcp := hW.cap
  have hkk : ¬ n.kind = 14 ∧ ¬ n.kind = 15 ∧ ¬ n.kind = 16 := by
    unfold arity at hk
    refine ⟨fun q => ?_, fun q => ?_, fun q => ?_⟩
    · rw [if_pos (.inl q)] at hk; cases hk
    · rw [if_pos (.inr q)] at hk; cases hk
    · rw [if_neg (by omega), if_pos q] at hk; cases hk
  have b14 : (n.kind == 14) = false := by rw [beq_eq_false_iff_ne]; exact hkk.1
  have b15 : (n.kind == 15) = false := by rw [beq_eq_false_iff_ne]; exact hkk.2.1
  have b16 : (n.kind == 16) = false := by rw [beq_eq_false_iff_ne]; exact hkk.2.2
  obtain ⟨N, hN⟩ : ∃ N, N = es.length := ⟨_, rfl⟩
  rw [← hN] at HLf ⊢
  have hN' : N ≤ 10000 := by omega
  clear hW hC hkk hk hN hel
  go_enter Tryz.func54, Tryz.ntmps54
  go_wp2_with fail
  refine HKs.out.mono ?_
  rintro r w1 ⟨g, cp, rfl, hO, hb1⟩
  have HB1 : Hid (Below w.heap.size w w1) := hb1
  have HTp1 : Hid (Calls Tryz.prog 90 #[.slice (some ⟨b, o, none⟩) 1 cap] w1 fun r w' => r = .returned (.int .i64 n.kind) ∧ w' = w1) := HTp.out w1 hb1
  have HL1 : Hid (Calls Tryz.prog 98 #[n.v, .slice (some ⟨rb, ro, none⟩) N rc] w1 fun e w' => ∃ g cp, e = .returned (.slice (some ⟨g, 0, none⟩) (leafM n es).length cp) ∧ OwnC w' w1.heap.size g cp (leafM n es) ∧ Below w1.heap.size w1 w') := HLf.out w1 hb1
  obtain ⟨k0, k1, k2, k3, k4, k5, k6⟩ := (HW.out.1.below hb1).at_ 0 n rfl
  simp only [Nat.zero_mul, Nat.add_zero] at k0 k1 k2 k3 k4 k5 k6
  clear HKs HTp hb1 hO HLf
  go_wp2_with fail
  refine HTp1.out.mono ?_
  rintro r w2 ⟨rfl, hw2⟩
  rw [hw2]
  clear hw2 HTp1
  go_wp2_with fail
  refine HL1.out.mono ?_
  rintro e w3 ⟨g3, cp3, rfl, hO3, hb3⟩
  have HE : Hid (OwnC w3 w.heap.size g3 cp3 (mean (.leaf n) es) ∧ Below w.heap.size w w3) := ⟨hO3.mono HB1.out.size, HB1.out.trans (hb3.mono HB1.out.size)⟩
  clear hO3 hb3
  go_wp2_with fail
  go_ret
  exact ⟨g3, cp3, rfl, HE.out⟩
theorem mean_of {m : Nat} (H : MeC m) : MeC (m + 1) := by
  intro w b o cap xs t rb ro rc es hm hW hT hsz hC hS hel
  have hP := TreeF.part hT
  cases hP with
  | leaf n h => exact mean_leaf n w b o cap rb ro rc es h hW (hsz n (by simp)) hC hel
  | chain n h ha hb => exact mean_chain H n w b o cap rb ro rc es h ha hb hm hW hsz hC hS hel
  | inter n h ha hb => exact mean_inter H n w b o cap rb ro rc es h ha hb hm hW hsz hC hS hel
  | cond n h ha hb hc => exact mean_cond H n w b o cap rb ro rc es h ha hb hc hm hW hsz hC hS hel
theorem mean_zero : MeC 0 := by
  intro w b o cap xs t rb ro rc es hm hW hT
  have := (treeF_isT hT).len
  omega
theorem mean_all : ∀ m, MeC m
  | 0 => mean_zero
  | m + 1 => mean_of (mean_all m)
end Go.Proofs.YtkidabedcgngcaaGreatDoor

