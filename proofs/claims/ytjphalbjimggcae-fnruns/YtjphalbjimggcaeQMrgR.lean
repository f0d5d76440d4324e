/-
  impl.MergeRuns, walked.
-/
import Derived.Test.YtjphalbjimggcaePkAR
import Derived.Deep.LoopGhost
import Derived.Deep.RegionHeld3
namespace Go.Proofs.Ytjphalbjimggcae
open Go.ChangeShapes Go.WideShapes Go.ChangeAt Go.RowKit Go.Deep
set_option linter.unusedVariables false
set_option linter.unusedSimpArgs false
set_option maxRecDepth 100000

theorem mg_new (w : World) (cg : Nat) (base : Nat) (hb : base ≤ w.heap.size) (hc : OwnC w base cg 0 []) (hn : cg < w.heap.size) :
    MgAt (w.alloc (Obj.cells #[.string ⟨#[]⟩, .string ⟨#[]⟩, .string ⟨#[]⟩, .slice none 0 0, .bool false, .int .u64 0, .slice (some ⟨cg, 0, none⟩) 0 0] 88)) base w.heap.size (⟨#[]⟩, ⟨#[]⟩, ⟨#[]⟩) (.slice none 0 0) [] false 0 cg 0 [] where
  own := World.ownsRow_lit (base := base) (e := 88) (size := 7) w #[.string ⟨#[]⟩, .string ⟨#[]⟩, .string ⟨#[]⟩, .slice none 0 0, .bool false, .int .u64 0, .slice (some ⟨cg, 0, none⟩) 0 0] 1 hb (by decide) rfl
  dels := ⟨rfl, .inl ⟨rfl, rfl⟩⟩
  cells := hc.below ((Below.refl _ _).alloc (Nat.le_refl _) _) hn

theorem OwnH.mono {w : World} {base base' g cap : Nat} {d : Array Cu} (h : OwnH w base g cap d) (hb : base' ≤ base) : OwnH w base' g cap d := by
  refine ⟨h.1, ?_⟩
  rcases h.2 with hn | ⟨g', cap', cur, hv, h1, rest⟩
  · exact .inl hn
  · exact .inr ⟨g', cap', cur, hv, Nat.le_trans hb h1, rest⟩
/-- What stands when the heap is opened. -/
theorem ginv_start {l : List Rm} {lo hi : ByteArray} {hh : Bool} {W w3 w4 : World} {b off g cp mb cg : Nat} {d : Array Cu} (hR : RmsAt W b off l) (hG : GoodRs (esM l)) (k3 : Below W.heap.size W w3) (hM : MgAt w3 W.heap.size mb (⟨#[]⟩, ⟨#[]⟩, ⟨#[]⟩) (.slice none 0 0) [] false 0 cg 0 [])
    (hrow : RowOk w4 w3.heap.size g cp d) (hh' : Heap d) (ho : OpenTo l lo hh hi l.length d.toList) (hb4 : Below w3.heap.size w3 w4) :
    ∃ (A : Nat → Ent → Prop) (N : Nat) (S : Nat → Prop), GInv A N S w4.heap.size g cp mb W (w4.alloc (Obj.cells #[.slice (some ⟨g, 0, none⟩) d.size cp] 90)) [] d (⟨#[]⟩, ⟨#[]⟩, ⟨#[]⟩) ∧ (∀ P L, Flow A N P [] → Shown P L → Mrg (esM l) (inR lo hh hi) L) := by
  have hbA : Below w4.heap.size w4 (w4.alloc (Obj.cells #[.slice (some ⟨g, 0, none⟩) d.size cp] 90)) := (Below.refl _ _).alloc (Nat.le_refl _) _
  have hzA : (w4.alloc (Obj.cells #[.slice (some ⟨g, 0, none⟩) d.size cp] 90)).heap.size = w4.heap.size + 1 := by simp
  have s3 := k3.size
  have s4 := hb4.size
  have hgl := hrow.row.lt
  have hfree : ∀ j, (w4.alloc (Obj.cells #[.slice (some ⟨g, 0, none⟩) d.size cp] 90)).frozen? ⟨w4.heap.size, j, none⟩ = false := fun j =>
    World.ownsRow.frozenAt (World.ownsRow_lit (base := 0) (e := 90) (size := 1) w4 #[.slice (some ⟨g, 0, none⟩) d.size cp] 1 (Nat.zero_le _) (by decide) rfl) j
  have hmine : ∀ k, Mine mb (.slice none 0 0) cg k → k < w3.heap.size := fun k q => (hM.low k q).2
  refine ⟨_, _, fun k => k = g ∨ k = w4.heap.size ∨ ∃ c ∈ d, k = c.blk, ⟨⟨?_, hh', flow_open ho, ho.blks, .inl rfl, .inr (.inl rfl), fun c hc => .inr (.inr ⟨c, hc, rfl⟩), ?_⟩, ⟨.slice none 0 0, [], false, 0, cg, 0, [], ?_⟩, last_nil _, ?_, ?_, ?_, ?_⟩, ?_⟩
  · exact {
      hdr := by simp
      free := hfree
      lt := by omega
      ne := by omega
      row := OwnH.mono (hrow.row.below hbA hgl.2) s3
      own := by omega
      cur := fun c hc => (hrow.cur c hc).below hbA
      low := fun c hc => by
        obtain ⟨r, hr, q⟩ := ho.src c (by simpa using hc)
        obtain ⟨i, hi⟩ := List.getElem?_of_mem hr
        have := (hR i r hi).2.lt
        omega
      high := fun c hc => by
        have h1 := hrow.high c hc
        have h2 := (hrow.cur c hc).lt
        exact ⟨by omega, h1.2, by omega⟩ }
  · have h1 := ho.few
    have h2 := hG.1
    simp at h1 h2
    omega
  · refine ⟨(hM.below hb4).below hbA, mem_nil _ _, shown_nil, ?_, by simp⟩
    intro k q
    have h1 := hmine k q
    rintro (q | q | ⟨c, hc, q⟩)
    · omega
    · omega
    · have h2 := (hrow.high c hc).1
      omega
  · exact (k3.trans (hb4.mono s3)).trans (hbA.mono (by omega))
  · rintro k (q | q | ⟨c, hc, q⟩)
    · omega
    · omega
    · have h2 := (hrow.cur c hc).lt
      omega
  · rintro k (q | q | ⟨c, hc, q⟩)
    · omega
    · omega
    · have h2 := (hrow.high c hc).1
      omega
  · have h1 := ho.sum
    have h2 := hG.1
    simp at h2
    omega
  · intro P L hF hS
    exact shown_all hS hF.done

set_option maxHeartbeats 8000000 in
theorem implMerge_core (b off cap : Nat) (l : List Rm) (lo hi : ByteArray) (hh : Bool) (w : World) (hR : RmsAt w b off l) (hok : okM l) (hB : b < w.heap.size) (hlen : l.length ≤ 1048576) :
    Calls Try.prog 11 #[.slice (some ⟨b, off, none⟩) l.length cap, .agg #[.string lo, .bool hh, .string hi]] w fun r w' =>
      ∃ (g cp : Nat) (L : List Ent), r = .returned (.slice (some ⟨g, 0, none⟩) L.length cp) ∧ OwnC w' w.heap.size g cp L ∧ Below w.heap.size w w' ∧ MrgOf (esM l) (inR lo hh hi) L := by
  have HR : Hid (RmsAt w b off l) := hR
  have HO : Hid (okM l) := hok
  clear hR hok
  obtain ⟨Wa, hWa⟩ : ∃ Wa : World, Wa = w.alloc (Obj.cells #[.string lo, .bool hh, .string hi] 25) := ⟨_, rfl⟩
  have hba : Below w.heap.size w Wa := by rw [hWa]; exact (Below.refl _ _).alloc (Nat.le_refl _) _
  have hza : Wa.heap.size = w.heap.size + 1 := by rw [hWa]; simp
  have HGa : Hid (Wa.cell? ⟨w.heap.size, 0, none⟩ = some (.string lo) ∧ Wa.cell? ⟨w.heap.size, 1, none⟩ = some (.bool hh) ∧ Wa.cell? ⟨w.heap.size, 2, none⟩ = some (.string hi)) := by
    refine ⟨?_, ?_, ?_⟩ <;> (rw [hWa]; simp)
  have HRa : Hid (RmsAt Wa b off l) := HR.out.below hba hB
  go_enter Try.func11, Try.ntmps11
  go_wp2_with fail
  rw [← hWa]
  clear hWa
  refine (validStack_core b off cap l _ HRa.out HO.out (by omega) hlen).mono ?_
  rintro e w1 ⟨r, rfl, hr, hb1⟩
  have HG : Hid (r = true ↔ GoodRs (esM l)) := hr
  clear hr
  have hs1 := hb1.size
  have k1 : Below w.heap.size w w1 := hba.trans (hb1.mono (by omega))
  cases r
  · have HN : Hid (¬ GoodRs (esM l)) := fun h => Bool.noConfusion (HG.out.2 h)
    have HC : Hid (OwnC (w1.alloc (Obj.cells #[] 71)) w.heap.size w1.heap.size 0 []) := (ownC_new w1).mono (by omega)
    go_wp2_with fail
    go_ret
    exact ⟨_, 0, [], rfl, HC.out, k1.alloc (by omega) _, fun h => absurd h HN.out, fun _ => rfl⟩
  have HGd : Hid (GoodRs (esM l)) := HG.out.1 rfl
  clear HG
  obtain ⟨W2, hW2⟩ : ∃ W2 : World, W2 = w1.alloc (Obj.cells #[] 71) := ⟨_, rfl⟩
  have hb2 : Below w1.heap.size w1 W2 := by rw [hW2]; exact (Below.refl _ _).alloc (Nat.le_refl _) _
  have hz2 : W2.heap.size = w1.heap.size + 1 := by rw [hW2]; simp
  have HC2 : Hid (OwnC W2 w.heap.size w1.heap.size 0 []) := by show OwnC W2 w.heap.size w1.heap.size 0 []; rw [hW2]; exact (ownC_new w1).mono (by omega)
  obtain ⟨W3, hW3⟩ : ∃ W3 : World, W3 = W2.alloc (Obj.cells #[.string ⟨#[]⟩, .string ⟨#[]⟩, .string ⟨#[]⟩, .slice none 0 0, .bool false, .int .u64 0, .slice (some ⟨w1.heap.size, 0, none⟩) 0 0] 88) := ⟨_, rfl⟩
  have hb3 : Below W2.heap.size W2 W3 := by rw [hW3]; exact (Below.refl _ _).alloc (Nat.le_refl _) _
  have hz3 : W3.heap.size = W2.heap.size + 1 := by rw [hW3]; simp
  have HM3 : Hid (MgAt W3 w.heap.size (w1.heap.size + 1) (⟨#[]⟩, ⟨#[]⟩, ⟨#[]⟩) (.slice none 0 0) [] false 0 w1.heap.size 0 []) := by
    show MgAt W3 _ _ _ _ _ _ _ _ _ _
    rw [hW3, ← hz2]; exact mg_new W2 w1.heap.size w.heap.size (by omega) HC2.out (by omega)
  have k13 : Below w1.heap.size w1 W3 := hb2.trans (hb3.mono (by omega))
  have k3 : Below w.heap.size w W3 := k1.trans (k13.mono (by omega))
  have HR3 : Hid (RmsAt W3 b off l) := HR.out.below k3 hB
  have HG3 : Hid (W3.cell? ⟨w.heap.size, 0, none⟩ = some (.string lo) ∧ W3.cell? ⟨w.heap.size, 1, none⟩ = some (.bool hh) ∧ W3.cell? ⟨w.heap.size, 2, none⟩ = some (.string hi)) := by
    have hy : Below Wa.heap.size Wa W3 := hb1.trans (k13.mono (by omega))
    refine ⟨?_, ?_, ?_⟩
    · rw [hy.cell (p := ⟨w.heap.size, 0, none⟩) (by show w.heap.size < Wa.heap.size; omega)]; exact HGa.out.1
    · rw [hy.cell (p := ⟨w.heap.size, 1, none⟩) (by show w.heap.size < Wa.heap.size; omega)]; exact HGa.out.2.1
    · rw [hy.cell (p := ⟨w.heap.size, 2, none⟩) (by show w.heap.size < Wa.heap.size; omega)]; exact HGa.out.2.2
  have s3 := k3.size
  go_upto_region 4 with fail
  rw [← hW2, ← hW3]
  clear hW2 hW3
  generalize w1.heap.size + 1 = mb at *
  obtain ⟨q0, q1, q2⟩ := HG3.out
  go_wp2_with fail
  refine (openCursors_core b off cap l lo hi hh _ HR3.out HGd.out (by omega)).mono ?_
  rintro e w4 ⟨g, cp, d0, rfl, hrow, hhp, hop, hb4⟩
  obtain ⟨A, N, S, hI0, hfin⟩ := ginv_start HR.out HGd.out k3 HM3.out hrow hhp hop hb4
  have HI0 : Hid (GInv A N S w4.heap.size g cp mb w (w4.alloc (Obj.cells #[.slice (some ⟨g, 0, none⟩) d0.size cp] 90)) [] d0 (⟨#[]⟩, ⟨#[]⟩, ⟨#[]⟩)) := hI0
  have HFin : Hid (∀ P L, Flow A N P [] → Shown P L → Mrg (esM l) (inR lo hh hi) L) := hfin
  clear hrow hhp hop hI0 hfin q0 q1 q2
  obtain ⟨W5, hW5⟩ : ∃ W5 : World, W5 = w4.alloc (Obj.cells #[.slice (some ⟨g, 0, none⟩) d0.size cp] 90) := ⟨_, rfl⟩
  rw [← hW5] at HI0
  go_wp2_with fail
  rw [← hW5]
  clear hW5
  generalize w4.heap.size = hp at *
  go_loopg [] (N + 1) (fun kx wr => ∃ (P : List (Nat × Ent)) (d : Array Cu) (c : ByteArray × ByteArray × ByteArray), N - P.length ≤ kx ∧ GInv A N S hp g cp mb w wr P d c)
  case atStart => exact ⟨[], d0, _, by simp, HI0.out⟩
  case round =>
    obtain ⟨P, d, co, hkx, hI⟩ := hrel
    have HI : Hid (GInv A N S hp g cp mb w wr P d co) := hI
    clear hI HI0
    have c0 := HI.out.heap.mem.hdr
    by_cases hd : d.size = 0
    · have hdn : d = #[] := Array.eq_empty_of_size_eq_zero hd
      obtain ⟨dv, ds, dec, ts, cg, cc, L, hR'⟩ := HI.out.mst
      have c6 := hR'.at_.cell.2.2.2.2.2.2.1
      have HF : Hid (OwnC wr w.heap.size cg cc L ∧ Below w.heap.size w wr ∧ MrgOf (esM l) (inR lo hh hi) L) := by
        refine ⟨hR'.at_.cells, HI.out.below, fun _ => HFin.out P L ?_ hR'.shown, fun h => absurd HGd.out h⟩
        have := HI.out.heap.flow
        rw [hdn] at this
        exact this
      rw [hd] at c0
      clear hR' hdn hd
      go_wp2_with fail
      refine (len_core _ _ _ _).mono ?_
      rintro e wx ⟨rfl, rfl⟩
      go_wp2_with fail
      go_ret
      exact ⟨cg, cc, L, rfl, HF.out.1, HF.out.2.1, HF.out.2.2⟩
    · obtain ⟨c, t, rfl⟩ : ∃ c t, d = (⟨c :: t⟩ : Array Cu) := by
        obtain ⟨dl⟩ := d
        cases dl with
        | nil => exact absurd rfl hd
        | cons c t => exact ⟨c, t, rfl⟩
      have hc0 : wr.cell? ⟨hp, 0, none⟩ = some (.slice (some ⟨g, 0, none⟩) (t.length + 1) cp) := c0
      have hc1 : wr.cell? ⟨g, 0, none⟩ = some (ifc c) := HI.out.heap.mem.row.cell (i := 0) (by simp)
      have HC : Hid (CuAt wr c) := HI.out.heap.mem.cur c (by simp)
      have hPN : P.length + 1 ≤ N := by
        have := (flow_min HI.out.heap.heap (fun x hx => (HI.out.heap.mem.cur x (by simpa using hx)).here) HI.out.heap.flow).2.len
        simpa using this
      clear c0 hd
      go_wp2_with fail
      refine (len_core _ _ _ _).mono ?_
      rintro e wx ⟨rfl, rfl⟩
      have zt : (0 : Int) < ((t.length + 1 : Nat) : Int) := by omega
      have mE := meth_entry
      have mA := meth_age
      go_upto_region 6 with fail
      go_region_held3 (fun w' => w'.cell? ⟨hp, 0, none⟩ = some (.slice (some ⟨g, 0, none⟩) (t.length + 1) cp) ∧ w'.cell? ⟨g, 0, none⟩ = some (.iface 124 (.pointer (some ⟨c.blk, 0, none⟩)))) (go_keep)
        ((first
          | (go_at_call 161; refine (entry_core c _ (HC.out.below ((Below.refl _ _).drew))).mono ?_; rintro e' w6 ⟨rfl, hb6⟩; have hq6 : Below wx.heap.size wx w6 := ((Below.refl wx.heap.size wx).drew).trans hb6; have y0 := (HI.out.below' hq6).heap.mem.hdr; have y1 : w6.cell? ⟨g, 0, none⟩ = some (.iface 124 (.pointer (some ⟨c.blk, 0, none⟩))) := (HI.out.below' hq6).heap.mem.row.cell (i := 0) (by simp))
          | (go_at_call 160; refine (age_core c _ (HC.out.below hq6)).mono ?_; rintro e' w7 ⟨rfl, hb7⟩; have hq7 : Below wx.heap.size wx w7 := hq6.trans (hb7.mono hq6.size); have y2 := (HI.out.below' hq7).heap.mem.hdr; have y3 : w7.cell? ⟨g, 0, none⟩ = some (.iface 124 (.pointer (some ⟨c.blk, 0, none⟩))) := (HI.out.below' hq7).heap.mem.row.cell (i := 0) (by simp))
          | (go_at_call 44; refine (take_top (HI.out.below' hq7)).mono ?_; rintro e' w8 ⟨rfl, hH8, hM8, hB8, hS8⟩; have y4 := hH8.mem.hdr; have y5 : w8.cell? ⟨g, 0, none⟩ = some (.iface 124 (.pointer (some ⟨c.blk, 0, none⟩))) := hH8.mem.row.cell (i := 0) (by simp); have H8 : Hid (HeapOk A N S hp w.heap.size g cp w8 P ⟨c :: t⟩ ∧ MSt S w.heap.size mb (P ++ [(c.age, c.head)]) w8 c.head.col ∧ Below w.heap.size w w8 ∧ wx.heap.size ≤ w8.heap.size) := ⟨hH8, hM8, hB8, Nat.le_trans hq7.size hS8⟩; clear hH8 hM8 hB8 hS8)))
      go_wp2_with fail
      refine (step_top H8.out.1 H8.out.2.1 H8.out.2.2.1 (fun k q => by have := HI.out.inS k q; have := H8.out.2.2.2; omega) HI.out.lowS HI.out.short).mono ?_
      rintro e' w9 ⟨rfl, d', hN9⟩
      have H9 : Hid (GInv A N S hp g cp mb w w9 (P ++ [(c.age, c.head)]) d' c.head.col) := hN9
      clear hN9
      go_wp2_with fail
      go_roundg (N - (P.length + 1))
      case measure => omega
      case rel => exact ⟨P ++ [(c.age, c.head)], d', c.head.col, by simp, H9.out⟩
end Go.Proofs.Ytjphalbjimggcae
