import Derived.Deep.LoopGhost
import Derived.Deep.RegionHeld3
import Derived.Maps.RangeWalk
import Derived.Maps.OwnSet
import Derived.Maps.OwnOps
import Derived.DeepKeys4
import Derived.Test.YtnncedndlhfdkacPkAH
import Derived.Test.YtnncedndlhfdkacPkAF
import Derived.Test.YtnncedndlhfdkacPkAD
import Derived.Test.YtnncedndlhfdkacPkAA
/-
  impl.MergeRuns, walked.
-/
namespace Go.Proofs.Ytnncedndlhfdkac
open Go.ChangeShapes Go.WideShapes Go.ChangeAt Go.RowKit Go.Deep
set_option linter.unusedVariables false
set_option linter.unusedSimpArgs false
set_option maxRecDepth 100000

theorem mg_new (w : World) (cg : Nat) (base : Nat) (hb : base ≤ w.heap.size) (hc : OwnC w base cg 0 []) (hn : cg < w.heap.size) :
    MgAt (w.alloc (Obj.cells #[.string ⟨#[]⟩, .string ⟨#[]⟩, .string ⟨#[]⟩, .slice none 0 0, .bool false, .int .u64 0, .slice (some ⟨cg, 0, none⟩) 0 0] 76)) base w.heap.size (⟨#[]⟩, ⟨#[]⟩, ⟨#[]⟩) (.slice none 0 0) [] false 0 cg 0 [] where
  own := World.ownsRow_lit (base := base) (e := 76) (size := 7) w #[.string ⟨#[]⟩, .string ⟨#[]⟩, .string ⟨#[]⟩, .slice none 0 0, .bool false, .int .u64 0, .slice (some ⟨cg, 0, none⟩) 0 0] 1 hb (by decide) rfl
  dels := ⟨rfl, .inl ⟨rfl, rfl⟩⟩
  cells := hc.below ((Below.refl _ _).alloc (Nat.le_refl _) _) hn

theorem OwnH.mono {w : World} {base base' g cap : Nat} {d : Array Cu} (h : OwnH w base g cap d) (hb : base' ≤ base) : OwnH w base' g cap d := by
  refine ⟨h.1, ?_⟩
  rcases h.2 with hn | ⟨g', cap', cur, hv, h1, rest⟩
  · exact .inl hn
  · exact .inr ⟨g', cap', cur, hv, Nat.le_trans hb h1, rest⟩
/-- What stands when the heap is opened. -/
theorem ginv_start {l : List Rm} {lo hi : ByteArray} {hh : Bool} {W w3 w4 : World} {b off g cp mb cg : Nat} {d : Array Cu} (hR : RmsAt W b off l) (hG : GoodRs (esM l)) (k3 : Below W.heap.size W w3) (hM : MgAt w3 W.heap.size mb (⟨#[]⟩, ⟨#[]⟩, ⟨#[]⟩) (.slice none 0 0) [] false 0 cg 0 [])
    (hrow : RowOk w4 w3.heap.size g cp d) (hh' : Heap d) (ho : OpenTo l lo hh hi l.length d.toList) (hb4 : Below w3.heap.size w3 w4) :
    ∃ (A : Nat → Ent → Prop) (N : Nat) (S : Nat → Prop), GInv A N S w4.heap.size g cp mb W (w4.alloc (Obj.cells #[.slice (some ⟨g, 0, none⟩) d.size cp] 78)) [] d (⟨#[]⟩, ⟨#[]⟩, ⟨#[]⟩) ∧ (∀ P L, Flow A N P [] → Shown P L → Mrg (esM l) (inR lo hh hi) L) := by
  have hbA : Below w4.heap.size w4 (w4.alloc (Obj.cells #[.slice (some ⟨g, 0, none⟩) d.size cp] 78)) := (Below.refl _ _).alloc (Nat.le_refl _) _
  have hzA : (w4.alloc (Obj.cells #[.slice (some ⟨g, 0, none⟩) d.size cp] 78)).heap.size = w4.heap.size + 1 := by simp
  have s3 := k3.size
  have s4 := hb4.size
  have hgl := hrow.row.lt
  have hfree : ∀ j, (w4.alloc (Obj.cells #[.slice (some ⟨g, 0, none⟩) d.size cp] 78)).frozen? ⟨w4.heap.size, j, none⟩ = false := fun j =>
    World.ownsRow.frozenAt (World.ownsRow_lit (base := 0) (e := 78) (size := 1) w4 #[.slice (some ⟨g, 0, none⟩) d.size cp] 1 (Nat.zero_le _) (by decide) rfl) j
  have hmine : ∀ k, Mine mb (.slice none 0 0) cg k → k < w3.heap.size := fun k q => (hM.low k q).2
  refine ⟨_, _, fun k => k = g ∨ k = w4.heap.size ∨ ∃ c ∈ d, k = c.blk, ⟨⟨?_, hh', flow_open ho, ho.blks, .inl rfl, .inr (.inl rfl), fun c hc => .inr (.inr ⟨c, hc, rfl⟩), ?_⟩, ⟨.slice none 0 0, [], false, 0, cg, 0, [], ?_⟩, last_nil _, ?_, ?_, ?_, ?_⟩, ?_⟩
  · exact {
      hdr := by simp
      free := hfree
      lt := by omega
      ne := by omega
      row := OwnH.mono (hrow.row.below hbA hgl.2) s3
      own := by omega
      cur := fun c hc => (hrow.cur c hc).below hbA
      low := fun c hc => by
        obtain ⟨r, hr, q⟩ := ho.src c (by simpa using hc)
        obtain ⟨i, hi⟩ := List.getElem?_of_mem hr
        have := (hR i r hi).2.lt
        omega
      high := fun c hc => by
        have h1 := hrow.high c hc
        have h2 := (hrow.cur c hc).lt
        exact ⟨by omega, h1.2, by omega⟩ }
  · have h1 := ho.few
    have h2 := hG.1
    simp at h1 h2
    omega
  · refine ⟨(hM.below hb4).below hbA, mem_nil _ _, shown_nil, ?_, by simp⟩
    intro k q
    have h1 := hmine k q
    rintro (q | q | ⟨c, hc, q⟩)
    · omega
    · omega
    · have h2 := (hrow.high c hc).1
      omega
  · exact (k3.trans (hb4.mono s3)).trans (hbA.mono (by omega))
  · rintro k (q | q | ⟨c, hc, q⟩)
    · omega
    · omega
    · have h2 := (hrow.cur c hc).lt
      omega
  · rintro k (q | q | ⟨c, hc, q⟩)
    · omega
    · omega
    · have h2 := (hrow.high c hc).1
      omega
  · have h1 := ho.sum
    have h2 := hG.1
    simp at h2
    omega
  · intro P L hF hS
    exact shown_all hS hF.done

set_option maxHeartbeats 8000000 in
theorem implMerge_core (b off cap : Nat) (l : List Rm) (lo hi : ByteArray) (hh : Bool) (w : World) (hR : RmsAt w b off l) (hok : okM l) (hB : b < w.heap.size) (hlen : l.length ≤ 1048576) :
    Calls Try.prog 12 #[.slice (some ⟨b, off, none⟩) l.length cap, .agg #[.string lo, .bool hh, .string hi]] w fun r w' =>
      ∃ (g cp : Nat) (L : List Ent), r = .returned (.slice (some ⟨g, 0, none⟩) L.length cp) ∧ OwnC w' w.heap.size g cp L ∧ Below w.heap.size w w' ∧ MrgOf (esM l) (inR lo hh hi) L := by
  have HR : Hid (RmsAt w b off l) := hR
  have HO : Hid (okM l) := hok
  clear hR hok
  obtain ⟨Wa, hWa⟩ : ∃ Wa : World, Wa = w.alloc (Obj.cells #[.string lo, .bool hh, .string hi] 31) := ⟨_, rfl⟩
  have hba : Below w.heap.size w Wa := by rw [hWa]; exact (Below.refl _ _).alloc (Nat.le_refl _) _
  have hza : Wa.heap.size = w.heap.size + 1 := by rw [hWa]; simp
  have HGa : Hid (Wa.cell? ⟨w.heap.size, 0, none⟩ = some (.string lo) ∧ Wa.cell? ⟨w.heap.size, 1, none⟩ = some (.bool hh) ∧ Wa.cell? ⟨w.heap.size, 2, none⟩ = some (.string hi)) := by
    refine ⟨?_, ?_, ?_⟩ <;> (rw [hWa]; simp)
  have HRa : Hid (RmsAt Wa b off l) := HR.out.below hba hB
  go_enter Try.func12, Try.ntmps12
  go_wp2_with fail
  rw [← hWa]
  clear hWa
  refine (validStack_core b off cap l _ HRa.out HO.out (by omega) hlen).mono ?_
  rintro e w1 ⟨r, rfl, hr, hb1⟩
  have HG : Hid (r = true ↔ GoodRs (esM l)) := hr
  clear hr
  have hs1 := hb1.size
  have k1 : Below w.heap.size w w1 := hba.trans (hb1.mono (by omega))
  cases r
  · have HN : Hid (¬ GoodRs (esM l)) := fun h => Bool.noConfusion (HG.out.2 h)
    have HC : Hid (OwnC (w1.alloc (Obj.cells #[] 69)) w.heap.size w1.heap.size 0 []) := (ownC_new w1).mono (by omega)
    go_wp2_with fail
    go_ret
    exact ⟨_, 0, [], rfl, HC.out, k1.alloc (by omega) _, fun h => absurd h HN.out, fun _ => rfl⟩
  have HGd : Hid (GoodRs (esM l)) := HG.out.1 rfl
  clear HG
  obtain ⟨W2, hW2⟩ : ∃ W2 : World, W2 = w1.alloc (Obj.cells #[] 69) := ⟨_, rfl⟩
  have hb2 : Below w1.heap.size w1 W2 := by rw [hW2]; exact (Below.refl _ _).alloc (Nat.le_refl _) _
  have hz2 : W2.heap.size = w1.heap.size + 1 := by rw [hW2]; simp
  have HC2 : Hid (OwnC W2 w.heap.size w1.heap.size 0 []) := by show OwnC W2 w.heap.size w1.heap.size 0 []; rw [hW2]; exact (ownC_new w1).mono (by omega)
  obtain ⟨W3, hW3⟩ : ∃ W3 : World, W3 = W2.alloc (Obj.cells #[.string ⟨#[]⟩, .string ⟨#[]⟩, .string ⟨#[]⟩, .slice none 0 0, .bool false, .int .u64 0, .slice (some ⟨w1.heap.size, 0, none⟩) 0 0] 76) := ⟨_, rfl⟩
  have hb3 : Below W2.heap.size W2 W3 := by rw [hW3]; exact (Below.refl _ _).alloc (Nat.le_refl _) _
  have hz3 : W3.heap.size = W2.heap.size + 1 := by rw [hW3]; simp
  have HM3 : Hid (MgAt W3 w.heap.size (w1.heap.size + 1) (⟨#[]⟩, ⟨#[]⟩, ⟨#[]⟩) (.slice none 0 0) [] false 0 w1.heap.size 0 []) := by
    show MgAt W3 _ _ _ _ _ _ _ _ _ _
    rw [hW3, ← hz2]; exact mg_new W2 w1.heap.size w.heap.size (by omega) HC2.out (by omega)
  have k13 : Below w1.heap.size w1 W3 := hb2.trans (hb3.mono (by omega))
  have k3 : Below w.heap.size w W3 := k1.trans (k13.mono (by omega))
  have HR3 : Hid (RmsAt W3 b off l) := HR.out.below k3 hB
  have HG3 : Hid (W3.cell? ⟨w.heap.size, 0, none⟩ = some (.string lo) ∧ W3.cell? ⟨w.heap.size, 1, none⟩ = some (.bool hh) ∧ W3.cell? ⟨w.heap.size, 2, none⟩ = some (.string hi)) := by
    have hy : Below Wa.heap.size Wa W3 := hb1.trans (k13.mono (by omega))
    refine ⟨?_, ?_, ?_⟩
    · rw [hy.cell (p := ⟨w.heap.size, 0, none⟩) (by show w.heap.size < Wa.heap.size; omega)]; exact HGa.out.1
    · rw [hy.cell (p := ⟨w.heap.size, 1, none⟩) (by show w.heap.size < Wa.heap.size; omega)]; exact HGa.out.2.1
    · rw [hy.cell (p := ⟨w.heap.size, 2, none⟩) (by show w.heap.size < Wa.heap.size; omega)]; exact HGa.out.2.2
  have s3 := k3.size
  go_upto_region 4 with fail
  rw [← hW2, ← hW3]
  clear hW2 hW3
  generalize w1.heap.size + 1 = mb at *
  obtain ⟨q0, q1, q2⟩ := HG3.out
  go_wp2_with fail
  refine (openCursors_core b off cap l lo hi hh _ HR3.out HGd.out (by omega)).mono ?_
  rintro e w4 ⟨g, cp, d0, rfl, hrow, hhp, hop, hb4⟩
  obtain ⟨A, N, S, hI0, hfin⟩ := ginv_start HR.out HGd.out k3 HM3.out hrow hhp hop hb4
  have HI0 : Hid (GInv A N S w4.heap.size g cp mb w (w4.alloc (Obj.cells #[.slice (some ⟨g, 0, none⟩) d0.size cp] 78)) [] d0 (⟨#[]⟩, ⟨#[]⟩, ⟨#[]⟩)) := hI0
  have HFin : Hid (∀ P L, Flow A N P [] → Shown P L → Mrg (esM l) (inR lo hh hi) L) := hfin
  clear hrow hhp hop hI0 hfin q0 q1 q2
  obtain ⟨W5, hW5⟩ : ∃ W5 : World, W5 = w4.alloc (Obj.cells #[.slice (some ⟨g, 0, none⟩) d0.size cp] 78) := ⟨_, rfl⟩
  rw [← hW5] at HI0
  go_wp2_with fail
  rw [← hW5]
  clear hW5
  generalize w4.heap.size = hp at *
  go_loopg [] (N + 1) (fun kx wr => ∃ (P : List (Nat × Ent)) (d : Array Cu) (c : ByteArray × ByteArray × ByteArray), N - P.length ≤ kx ∧ GInv A N S hp g cp mb w wr P d c)
  case atStart => exact ⟨[], d0, _, by simp, HI0.out⟩
  case round =>
    obtain ⟨P, d, co, hkx, hI⟩ := hrel
    have HI : Hid (GInv A N S hp g cp mb w wr P d co) := hI
    clear hI HI0
    have c0 := HI.out.heap.mem.hdr
    by_cases hd : d.size = 0
    · have hdn : d = #[] := Array.eq_empty_of_size_eq_zero hd
      obtain ⟨dv, ds, dec, ts, cg, cc, L, hR'⟩ := HI.out.mst
      have c6 := hR'.at_.cell.2.2.2.2.2.2.1
      have HF : Hid (OwnC wr w.heap.size cg cc L ∧ Below w.heap.size w wr ∧ MrgOf (esM l) (inR lo hh hi) L) := by
        refine ⟨hR'.at_.cells, HI.out.below, fun _ => HFin.out P L ?_ hR'.shown, fun h => absurd HGd.out h⟩
        have := HI.out.heap.flow
        rw [hdn] at this
        exact this
      rw [hd] at c0
      clear hR' hdn hd
      go_wp2_with fail
      refine (len_core _ _ _ _).mono ?_
      rintro e wx ⟨rfl, rfl⟩
      go_wp2_with fail
      go_ret
      exact ⟨cg, cc, L, rfl, HF.out.1, HF.out.2.1, HF.out.2.2⟩
    · obtain ⟨c, t, rfl⟩ : ∃ c t, d = (⟨c :: t⟩ : Array Cu) := by
        obtain ⟨dl⟩ := d
        cases dl with
        | nil => exact absurd rfl hd
        | cons c t => exact ⟨c, t, rfl⟩
      have hc0 : wr.cell? ⟨hp, 0, none⟩ = some (.slice (some ⟨g, 0, none⟩) (t.length + 1) cp) := c0
      have hc1 : wr.cell? ⟨g, 0, none⟩ = some (ifc c) := HI.out.heap.mem.row.cell (i := 0) (by simp)
      have HC : Hid (CuAt wr c) := HI.out.heap.mem.cur c (by simp)
      have hPN : P.length + 1 ≤ N := by
        have := (flow_min HI.out.heap.heap (fun x hx => (HI.out.heap.mem.cur x (by simpa using hx)).here) HI.out.heap.flow).2.len
        simpa using this
      clear c0 hd
      go_wp2_with fail
      refine (len_core _ _ _ _).mono ?_
      rintro e wx ⟨rfl, rfl⟩
      have zt : (0 : Int) < ((t.length + 1 : Nat) : Int) := by omega
      have mE := meth_entry
      have mA := meth_age
      go_upto_region 6 with fail
      go_region_held3 (fun w' => w'.cell? ⟨hp, 0, none⟩ = some (.slice (some ⟨g, 0, none⟩) (t.length + 1) cp) ∧ w'.cell? ⟨g, 0, none⟩ = some (.iface 117 (.pointer (some ⟨c.blk, 0, none⟩)))) (go_keep)
        ((first
          | (go_at_call 149; refine (entry_core c _ (HC.out.below ((Below.refl _ _).drew))).mono ?_; rintro e' w6 ⟨rfl, hb6⟩; have hq6 : Below wx.heap.size wx w6 := ((Below.refl wx.heap.size wx).drew).trans hb6; have y0 := (HI.out.below' hq6).heap.mem.hdr; have y1 : w6.cell? ⟨g, 0, none⟩ = some (.iface 117 (.pointer (some ⟨c.blk, 0, none⟩))) := (HI.out.below' hq6).heap.mem.row.cell (i := 0) (by simp))
          | (go_at_call 148; refine (age_core c _ (HC.out.below hq6)).mono ?_; rintro e' w7 ⟨rfl, hb7⟩; have hq7 : Below wx.heap.size wx w7 := hq6.trans (hb7.mono hq6.size); have y2 := (HI.out.below' hq7).heap.mem.hdr; have y3 : w7.cell? ⟨g, 0, none⟩ = some (.iface 117 (.pointer (some ⟨c.blk, 0, none⟩))) := (HI.out.below' hq7).heap.mem.row.cell (i := 0) (by simp))
          | (go_at_call 43; refine (take_top (HI.out.below' hq7)).mono ?_; rintro e' w8 ⟨rfl, hH8, hM8, hB8, hS8⟩; have y4 := hH8.mem.hdr; have y5 : w8.cell? ⟨g, 0, none⟩ = some (.iface 117 (.pointer (some ⟨c.blk, 0, none⟩))) := hH8.mem.row.cell (i := 0) (by simp); have H8 : Hid (HeapOk A N S hp w.heap.size g cp w8 P ⟨c :: t⟩ ∧ MSt S w.heap.size mb (P ++ [(c.age, c.head)]) w8 c.head.col ∧ Below w.heap.size w w8 ∧ wx.heap.size ≤ w8.heap.size) := ⟨hH8, hM8, hB8, Nat.le_trans hq7.size hS8⟩; clear hH8 hM8 hB8 hS8)))
      go_wp2_with fail
      refine (step_top H8.out.1 H8.out.2.1 H8.out.2.2.1 (fun k q => by have := HI.out.inS k q; have := H8.out.2.2.2; omega) HI.out.lowS HI.out.short).mono ?_
      rintro e' w9 ⟨rfl, d', hN9⟩
      have H9 : Hid (GInv A N S hp g cp mb w w9 (P ++ [(c.age, c.head)]) d' c.head.col) := hN9
      clear hN9
      go_wp2_with fail
      go_roundg (N - (P.length + 1))
      case measure => omega
      case rel => exact ⟨P ++ [(c.age, c.head)], d', c.head.col, by simp, H9.out⟩
end Go.Proofs.Ytnncedndlhfdkac

/-
  The law FnRuns: its walk.
-/
namespace Go.Proofs.Ytnncedndlhfdkac.fnRuns
open Go.ChangeShapes Go.WideShapes Go.ChangeAt Go.RowKit Go.Deep
set_option linter.unusedVariables false
set_option linter.unusedSimpArgs false
set_option maxRecDepth 100000

set_option maxHeartbeats 8000000 in
theorem runsWalk (hBuild : BuildC) (hReplay : ReplayC) (v : Value) (n : Nat) (u : Value) (m : Nat) (w : World) (h : BytesIn w v n) (k : BytesIn w u m) :
    Calls Try.prog 6 #[v, u] w fun e w' => e = .returned (.bool true) ∧ Below w.heap.size w w' := by
  obtain ⟨a, cap, rfl⟩ := h.slice
  obtain ⟨a', cap', rfl⟩ := k.slice
  have hm := h.1
  have hm' := k.1
  have HB : Hid (BytesIn w (.slice a n cap) n ∧ BytesIn w (.slice a' m cap') m) := ⟨h, k⟩
  clear h k
  by_cases hbig : 1048576 < n
  · have z : (1048576 : Int) < (n : Int) := by omega
    go_enter Try.func6, Try.ntmps6
    go_wp2_with fail
    go_ret
    exact ⟨rfl, Below.refl _ _⟩
  have z : ¬ (1048576 : Int) < (n : Int) := by omega
  by_cases hbig' : 1048576 < m
  · have z' : (1048576 : Int) < (m : Int) := by omega
    go_enter Try.func6, Try.ntmps6
    go_wp2_with fail
    go_ret
    exact ⟨rfl, Below.refl _ _⟩
  have z' : ¬ (1048576 : Int) < (m : Int) := by omega
  have hn : n ≤ 1048576 := by omega
  go_enter Try.func6, Try.ntmps6
  go_wp2_with fail
  clear hm hm' hbig hbig' z z'
  refine (drawReplay_core _ n w (HB.out.1.code hn)).mono ?_
  rintro e w1 ⟨gw, cw, ws, rfl, hD1⟩
  have s1 := hD1.below.size
  have hgw := hD1.row.lt
  obtain ⟨N, hN⟩ : ∃ N : Nat, ws.length = N := ⟨_, rfl⟩
  have HN : Hid (ws.length = N) := hN
  have hNs : N ≤ 100 := by have := hD1.len; omega
  have hcw : Hid (N ≤ cw ∧ cw ≤ maxLen) := by
    show N ≤ cw ∧ cw ≤ maxLen
    rcases hD1.row.2 with ⟨h0, _⟩ | ⟨g', cap', cur, hv, _, _, hn, hcap, _, _⟩
    · cases h0
    · simp only [Value.slice.injEq, Option.some.injEq, Addr.mk.injEq, and_true, true_and] at hv
      obtain ⟨rfl, rfl⟩ := hv
      exact ⟨by omega, hcap⟩
  have HW1 : Hid (EntsAt w1 gw 0 ws ∧ (∀ e ∈ ws, e.ok)) := ⟨hD1.row.at, fun e he => (hD1.ok e he).ok⟩
  have HB1 : Hid (BytesIn w1 (.slice a n cap) n ∧ BytesIn w1 (.slice a' m cap') m) := ⟨HB.out.1.below hD1.below, HB.out.2.below hD1.below⟩
  have k1 : Below w.heap.size w w1 := hD1.below
  rw [hN]
  clear hD1 HB hN
  go_wp2_with fail
  refine (drawMerge_core _ n w1 (HB1.out.1.code hn)).mono ?_
  rintro e w2 ⟨gx, cx, lx, lo, hi, hh, rfl, hD2⟩
  have s2 := hD2.below.size
  obtain ⟨W3, hW3⟩ : ∃ W3 : World, W3 = w2.alloc (Obj.cells #[.string lo, .bool hh, .string hi] 31) := ⟨_, rfl⟩
  have hb3 : Below w2.heap.size w2 W3 := by rw [hW3]; exact (Below.refl _ _).alloc (Nat.le_refl _) _
  have s3 : W3.heap.size = w2.heap.size + 1 := by rw [hW3]; simp
  have k13 : Below w1.heap.size w1 W3 := hD2.below.trans (hb3.mono s2)
  have HC3 : Hid (W3.cell? ⟨w2.heap.size, 0, none⟩ = some (.string lo) ∧ W3.cell? ⟨w2.heap.size, 1, none⟩ = some (.bool hh) ∧ W3.cell? ⟨w2.heap.size, 2, none⟩ = some (.string hi)) := by
    rw [hW3]; refine ⟨?_, ?_, ?_⟩ <;> simp
  have k3 : Below w.heap.size w W3 := k1.trans (k13.mono s1)
  have HE3 : Hid (EntsAt W3 gw 0 ws) := HW1.out.1.below k13 hgw.2
  clear hD2
  go_upto_region 5 with fail
  rw [← hW3]
  clear hW3
  go_wp2_with fail
  have hrep := specReplay_core gw 0 cw ws W3 HE3.out HW1.out.2 (by omega) (by have := HN.out; omega)
  rw [HN.out] at hrep
  refine hrep.mono ?_
  rintro e w4 ⟨gl, cl, L, rfl, hC4, hb4, hLl, hL⟩
  have s4 := hb4.size
  have hgl := hC4.lt
  have HL : Hid (OwnC w4 W3.heap.size gl cl L ∧ RepOf ws L) := ⟨hC4, hL⟩
  obtain ⟨M, hM⟩ : ∃ M : Nat, L.length = M := ⟨_, rfl⟩
  have HM : Hid (L.length = M ∧ M ≤ 100) := ⟨hM, by omega⟩
  rw [hM]
  have HE4 : Hid (EntsAt w4 gw 0 ws) := HE3.out.below hb4 (by omega)
  have k4 : Below w.heap.size w w4 := k3.trans (hb4.mono (by have := k3.size; omega))
  clear hC4 hL hLl hM hrep
  go_upto_region 6 with fail
  go_cut [39] (fun s wx => ∃ b : Bool, s = .bool b ∧ (b = true → ¬ GoodW ws) ∧ (b = false → GoodW ws) ∧ Below w4.heap.size w4 wx)
  case first =>
    by_cases h0 : N = 0
    · have zz : ¬ (0 : Int) < (N : Int) := by omega
      have H0 : Hid (N = 0) := h0
      clear h0
      go_wp2_with fail
      go_meet
      refine ⟨false, rfl, fun q => (by cases q), fun _ => ?_, Below.refl _ _⟩
      have : ws = [] := List.length_eq_zero_iff.1 (by have := HN.out; have := H0.out; omega)
      subst this
      exact ⟨by simp, fun e he => by simp at he⟩
    · have zz : (0 : Int) < (N : Int) := by omega
      go_wp2_with fail
      have hbld := specBuild_core gw 0 cw ws w4 HE4.out HW1.out.2 (by omega) (by have := HN.out; omega)
      rw [HN.out] at hbld
      refine hbld.mono ?_
      rintro e w5 ⟨g5, c5, R, rfl, hO5, hb5, hRl, hK, hNK⟩
      have HK : Hid ((GoodW ws → 0 < R.length) ∧ (¬ GoodW ws → R.length = 0)) := ⟨fun q => kept_nonempty (by have := hK q; rwa [← HN.out] at this) (show 0 < ws.length by have := HN.out; omega), fun q => by rw [hNK q]; rfl⟩
      clear hO5 hRl hK hNK hbld
      have hfl := runField (some ⟨g5, 0, none⟩) R.length c5 w5
      by_cases hG : GoodW ws
      · have y : ¬ R.length = 0 := by have := HK.out.1 hG; omega
        go_wp2_with fail
        go_meet
        exact ⟨false, by simp [y], fun q => (by cases q), fun _ => hG, hb5⟩
      · have y : R.length = 0 := HK.out.2 hG
        rw [y] at hfl ⊢
        go_wp2_with fail
        go_meet
        exact ⟨true, by simp, fun _ => hG, fun q => (by cases q), hb5⟩
  case rest =>
  obtain ⟨b, rfl, hb1, hb2, hbc⟩ := hcut
  have sc := hbc.size
  have HEc : Hid (EntsAt wc gw 0 ws) := HE4.out.below hbc (by omega)
  have kc : Below w.heap.size w wc := k4.trans (hbc.mono (by have := k4.size; omega))
  cases b
  case true =>
    have HG : Hid (¬ GoodW ws) := hb1 rfl
    clear hb1 hb2
    go_wp2_with fail
    have hr6 := hReplay gw 0 cw ws wc HEc.out HW1.out.2 (by omega) (by have := hcw.out; have := HN.out; omega) hcw.out.2 (by have := HN.out; omega)
    rw [HN.out] at hr6
    refine hr6.mono ?_
    rintro e w6 ⟨g6, c6, R, rfl, hC6, hR6, hb6⟩
    have s6 := hb6.size
    obtain rfl : R = [] := hR6.2 HG.out
    have HE6 : Hid (EntsAt w6 gw 0 ws) := HEc.out.below hb6 (by omega)
    rw [show (puts ([] : List Ent)).length = 0 from rfl]
    clear hC6 hR6 hr6
    go_wp2_with fail
    have hr7 := hBuild gw 0 cw ws w6 HE6.out HW1.out.2 (by omega) (by have := hcw.out; have := HN.out; omega) hcw.out.2 (by have := HN.out; omega)
    rw [HN.out] at hr7
    refine hr7.mono ?_
    rintro e w7 ⟨a7, n7, c7, R, rfl, hU7, hR7, hb7⟩
    obtain rfl : R = [] := hR7.2 HG.out
    obtain rfl : n7 = 0 := by
      rcases hU7 with ⟨q, _⟩ | ⟨g', cp', q, _⟩
      · simp at q; exact q.2.1
      · simp at q; exact q.2.1
    clear hU7 hR7 hr7
    have hfl := runField a7 0 c7 w7
    go_wp2_with fail
    go_ret
    exact ⟨rfl, (kc.trans (hb6.mono (by have := kc.size; omega))).trans (hb7.mono (by have := kc.size; omega))⟩
  case false =>
    have HG : Hid (GoodW ws) := hb2 rfl
    clear hb1 hb2
    obtain ⟨W8, hW8⟩ : ∃ W8 : World, W8 = wc.alloc (Obj.cells #[] 40) := ⟨_, rfl⟩
    have H8 : Hid (KInv wc ws 0 0 wc.heap.size 0 [] W8) := by
      have hb8 : Below wc.heap.size wc W8 := by rw [hW8]; exact (Below.refl _ _).alloc (Nat.le_refl _) _
      refine ⟨?_, fun r hr => by simp at hr, fun r hr => by simp at hr, fun es he => by simp at he, .nil, hb8, Nat.le_refl _, Nat.zero_le _, Nat.le_refl _⟩
      rw [hW8]
      exact World.ownsRow_made wc #[] 0 (Nat.le_refl _) (Nat.zero_le _) (by simp)
    have HBc : Hid (BytesIn wc (.slice a' m cap') m) := HB1.out.2.below (k13.trans ((hb4.mono (by omega)).trans (hbc.mono (by omega))))
    have HCc : Hid (wc.cell? ⟨w2.heap.size, 0, none⟩ = some (.string lo) ∧ wc.cell? ⟨w2.heap.size, 1, none⟩ = some (.bool hh) ∧ wc.cell? ⟨w2.heap.size, 2, none⟩ = some (.string hi)) := by
      have hk : Below W3.heap.size W3 wc := hb4.trans (hbc.mono s4)
      refine ⟨?_, ?_, ?_⟩
      · rw [hk.cell (p := ⟨w2.heap.size, 0, none⟩) (by show w2.heap.size < W3.heap.size; omega)]; exact HC3.out.1
      · rw [hk.cell (p := ⟨w2.heap.size, 1, none⟩) (by show w2.heap.size < W3.heap.size; omega)]; exact HC3.out.2.1
      · rw [hk.cell (p := ⟨w2.heap.size, 2, none⟩) (by show w2.heap.size < W3.heap.size; omega)]; exact HC3.out.2.2
    have HLc : Hid (OwnC wc W3.heap.size gl cl L) := HL.out.1.below hbc (by omega)
    go_upto_region 11 with fail
    rw [← hW8]
    clear hW8
    go_loopw [9, 10, 11] (fun s i j wr => ∃ (m' k' g cp : Nat) (l : List Rm), s = .slice (some ⟨g, 0, none⟩) l.length cp ∧ i = .int .i64 m' ∧ j = .int .i64 k' ∧ KInv wc ws m' k' g cp l wr) (fun _ i _ _ => N - (intOf i).toNat)
    case atStart => exact ⟨0, 0, _, 0, [], rfl, rfl, rfl, H8.out⟩
    case round =>
      obtain ⟨m', k', g, cp, l, rfl, rfl, rfl, hK⟩ := hrel
      have HK : Hid (KInv wc ws m' k' g cp l wr) := hK
      have hmN : m' ≤ N := by have := hK.al; have := HN.out; omega
      have hk : k' ≤ m' := hK.ka
      clear hK
      by_cases hlt : m' < N
      · have zl : (m' : Int) < (N : Int) := by omega
        go_wp2_with fail
        refine (lwAt_core _ m k' wr (HBc.out.below HK.out.below) (by omega)).mono ?_
        rintro e w9 ⟨x, rfl, hx0, hx1, rfl⟩
        go_upto_if 68 with fail
        go_cut [12] (fun s wx => ∃ j : Nat, s = .int .i64 j ∧ 1 ≤ j ∧ m' + j ≤ N ∧ wx = w9)
        case first =>
          by_cases hy : (N : Int) - m' < 1 + x % 6
          · go_wp2_with fail
            go_meet
            exact ⟨N - m', by congr 1; omega, by omega, by omega, rfl⟩
          · go_wp2_with fail
            go_meet
            exact ⟨(1 + x % 6).toNat, by congr 1; omega, by omega, by omega, rfl⟩
        case rest =>
        obtain ⟨j, rfl, hj1, hj2, hwc⟩ := hcut
        rw [hwc]
        clear hwc wc
        have hzc := hcw.out
        unfold maxLen at hzc
        have z1 : (m' : Int) ≤ (m' : Int) + (j : Int) := by omega
        have z2 : (m' : Int) + (j : Int) ≤ (cw : Int) := by omega
        have z3 : ¬ m' = cw := by omega
        clear hzc
        go_wp2_with fail
        obtain ⟨p, hp⟩ : ∃ p : List Ent, p = (ws.drop m').take j := ⟨_, rfl⟩
        have hpl : p.length = j := by rw [hp, List.length_take, List.length_drop]; have := HN.out; omega
        have HP : Hid (p = (ws.drop m').take j) := hp
        have hgw9 : gw < wc.heap.size := by omega
        have s9 := HK.out.below.size
        have hpE : EntsAt w9 gw (m' * 6) p := by
          have := ((HEc.out.below HK.out.below hgw9).dropped m').taken j
          rw [← hp, Nat.zero_add] at this
          exact this
        have hbld := hBuild gw (m' * 6) (cw - m') p w9 hpE (fun e he => HW1.out.2 e (List.mem_of_mem_drop (List.mem_of_mem_take (hp ▸ he)))) (by omega) (by have := hcw.out; omega) (by have := hcw.out; omega) (by omega)
        rw [hpl] at hbld
        refine hbld.mono ?_
        rintro e w10 ⟨a10, n10, c10, R, rfl, hU10, hR10, hb10⟩
        have s10 := hb10.size
        have hKp : Kept p p.length R := hR10.1 (by rw [hp]; exact goodW_piece HG.out m' j)
        have hne := kept_nonempty hKp (by omega)
        obtain ⟨g2, hv2, hO2⟩ : ∃ g2, (Value.slice a10 n10 c10) = .slice (some ⟨g2, 0, none⟩) R.length c10 ∧ OwnE w10 w9.heap.size g2 c10 R := by
          rcases hU10 with ⟨_, q⟩ | ⟨g2, cp2, q, hq⟩
          · rw [q] at hne; simp at hne
          · have hc : c10 = cp2 := by simp only [Value.slice.injEq] at q; exact q.2.2
            subst hc
            exact ⟨g2, q, hq⟩
        rw [hv2]
        have HK10 : Hid (KInv wc ws m' k' g cp l w10) := HK.out.call hb10
        have HU : Hid (OwnE w10 w9.heap.size g2 c10 R ∧ Kept p p.length R ∧ Below w9.heap.size w9 w10) := ⟨hO2, hKp, hb10⟩
        obtain ⟨W5, hW5⟩ : ∃ W5 : World, W5 = w10.alloc (Obj.cells #[.slice (some ⟨g2, 0, none⟩) R.length c10] 40) := ⟨_, rfl⟩
        have hb5 : Below w10.heap.size w10 W5 := by rw [hW5]; exact (Below.refl _ _).alloc (Nat.le_refl _) _
        have hz5 : W5.heap.size = w10.heap.size + 1 := by rw [hW5]; simp
        have HK5 : Hid (KInv wc ws m' k' g cp l W5) := HK10.out.call hb5
        have HO5 : Hid (OwnW W5 wc.heap.size w10.heap.size 1 [⟨g2, 0, c10, R⟩]) := by
          show OwnW W5 wc.heap.size w10.heap.size 1 [⟨g2, 0, c10, R⟩]
          rw [hW5]
          exact World.ownsRow_lit w10 #[.slice (some ⟨g2, 0, none⟩) R.length c10] 1 (by omega) (by decide) rfl
        have hcnt : l.length ≤ 100 := by have := HK.out.cnt; omega
        clear hv2 hU10 hR10 hO2 hKp hne hpE hbld hp
        go_wp2_with (at_builtin; rw [← hW5]; refine wpList_append_runs _ rfl _ _ rfl wc.heap.size w10.heap.size 1 1 g l.length cp [⟨g2, 0, c10, R⟩] l rfl rfl rfl rfl ?hO ?hc ?hl ?hb ?_)
        case hO => exact HO5.out
        case hc => exact fun i r' hr' => HK5.out.row.cell hr'
        case hl => simp; omega
        case hb => exact HK5.out.below.size
        intro g' cp' w11 hO' hgr hat
        rw [← hW5] at hgr
        rw [← hz5] at hat
        have HK11 : Hid (KInv wc ws (m' + j) (k' + 1) g' cp' (⟨g2, 0, c10, R⟩ :: l) w11) :=
          HK.out.step HG.out HW1.out.2 hj1 (by have := HN.out; omega) HU.out.1 HU.out.2.2 (by rw [← HP.out]; exact HU.out.2.1) hb5 hz5 hO' hgr hat
        clear hO' hgr hat HO5 HK5 hb5 hz5 hW5 HU HK10 HK hb10
        go_wp2_with fail
        go_roundw
        case rel => exact ⟨m' + j, k' + 1, g', cp', ⟨g2, 0, c10, R⟩ :: l, by simp [Nat.add_comm], by go_num, by go_num, HK11.out⟩
        case measure => go_light; simp [intOf]; omega
      · obtain rfl : m' = N := by omega
        have zl : ¬ (m' : Int) < (m' : Int) := by omega
        by_cases h50 : 50 < l.length
        · have z50 : (50 : Int) < (l.length : Int) := by omega
          go_wp2_with fail
          go_ret
          exact ⟨rfl, kc.trans (HK.out.below.mono (by have := kc.size; omega))⟩
        · have z50 : ¬ (50 : Int) < (l.length : Int) := by omega
          have hk' : Below wc.heap.size wc wr := HK.out.below
          have sr := hk'.size
          obtain rfl := HM.out.1
          have hgr := HK.out.row.lt
          have HR : Hid (RmsAt wr g 0 l ∧ okM l ∧ GoodRs (esM l) ∧ Cuts ws (esM l)) := by
            refine ⟨HK.out.rms, HK.out.ok, ⟨by simp; omega, HK.out.good⟩, ?_⟩
            have := HK.out.cuts
            rwa [List.take_of_length_le (by have := HN.out; omega)] at this
          have HRep : Hid (Rep ws ws.length L) := HL.out.2.1 HG.out
          have hcells : ∀ w' : World, Below wr.heap.size wr w' → w'.cell? ⟨w2.heap.size, 0, none⟩ = some (.string lo) ∧ w'.cell? ⟨w2.heap.size, 1, none⟩ = some (.bool hh) ∧ w'.cell? ⟨w2.heap.size, 2, none⟩ = some (.string hi) := by
            intro w' hb'
            have hb'' : Below wc.heap.size wc w' := hk'.trans (hb'.mono sr)
            refine ⟨?_, ?_, ?_⟩
            · rw [hb''.cell (p := ⟨w2.heap.size, 0, none⟩) (by show w2.heap.size < wc.heap.size; omega)]; exact HCc.out.1
            · rw [hb''.cell (p := ⟨w2.heap.size, 1, none⟩) (by show w2.heap.size < wc.heap.size; omega)]; exact HCc.out.2.1
            · rw [hb''.cell (p := ⟨w2.heap.size, 2, none⟩) (by show w2.heap.size < wc.heap.size; omega)]; exact HCc.out.2.2
          have HCells : Hid (∀ w' : World, Below wr.heap.size wr w' → w'.cell? ⟨w2.heap.size, 0, none⟩ = some (.string lo) ∧ w'.cell? ⟨w2.heap.size, 1, none⟩ = some (.bool hh) ∧ w'.cell? ⟨w2.heap.size, 2, none⟩ = some (.string hi)) := hcells
          obtain ⟨c0, c1, c2⟩ := hcells wr (Below.refl _ _)
          clear hcells
          have HMrg : Hid (∀ w' : World, Below wr.heap.size wr w' → Calls Try.prog 12 #[.slice (some ⟨g, 0, none⟩) l.length cp, .agg #[.string lo, .bool hh, .string hi]] w' fun r w'' =>
              ∃ (gm cm : Nat), r = .returned (.slice (some ⟨gm, 0, none⟩) (L.filter fun x => inR lo hh hi x.row).length cm) ∧ OwnC w'' wr.heap.size gm cm (L.filter fun x => inR lo hh hi x.row) ∧ Below w'.heap.size w' w'' ∧ Below wr.heap.size wr w'') := by
            intro w' hb'
            have hs' := hb'.size
            refine (implMerge_core g 0 cp l lo hi hh w' (HR.out.1.below hb' hgr.2) HR.out.2.1 (by omega) (by omega)).mono ?_
            rintro e w'' ⟨gm, cm, M', rfl, hC, hb, hM⟩
            obtain rfl : M' = L.filter fun x => inR lo hh hi x.row := cuts_merge HR.out.2.2.2 HRep.out (hM.1 HR.out.2.2.1)
            exact ⟨gm, cm, rfl, hC.mono hs', hb, hb'.trans (hb.mono hs')⟩
          have HIn : Hid (∀ w' : World, Below wr.heap.size wr w' → Calls Try.prog 32 #[.slice (some ⟨gl, 0, none⟩) L.length cl, .agg #[.string lo, .bool hh, .string hi]] w' fun r w'' =>
              ∃ (gm cm : Nat), r = .returned (.slice (some ⟨gm, 0, none⟩) (L.filter fun x => inR lo hh hi x.row).length cm) ∧ OwnC w'' wr.heap.size gm cm (L.filter fun x => inR lo hh hi x.row) ∧ Below w'.heap.size w' w'' ∧ Below wr.heap.size wr w'') := by
            intro w' hb'
            have hs' := hb'.size
            refine (lwInRange_core gl 0 cl L lo hi hh w' ((HLc.out.below (hk'.trans (hb'.mono sr)) (by omega)).at) (by omega) (by have := HM.out.2; omega)).mono ?_
            rintro e w'' ⟨gm, cm, rfl, hC, hb⟩
            exact ⟨gm, cm, rfl, hC.mono hs', hb, hb'.trans (hb.mono hs')⟩
          have HRp : Hid (∀ w' : World, Below wr.heap.size wr w' → Calls Try.prog 29 #[.slice (some ⟨gw, 0, none⟩) m' cw] w' fun r w'' =>
              ∃ (gm cm : Nat), r = .returned (.slice (some ⟨gm, 0, none⟩) L.length cm) ∧ OwnC w'' wr.heap.size gm cm L ∧ Below w'.heap.size w' w'' ∧ Below wr.heap.size wr w'') := by
            intro w' hb'
            have hs' := hb'.size
            have h1 := hReplay gw 0 cw ws w' (HEc.out.below (hk'.trans (hb'.mono sr)) (by omega)) HW1.out.2 (by omega) (by have := hcw.out; have := HN.out; omega) hcw.out.2 (by have := HN.out; omega)
            rw [HN.out] at h1
            refine h1.mono ?_
            rintro e w'' ⟨gm, cm, R, rfl, hC, hR, hb⟩
            have hLR : puts R = L := (repOf_puts HL.out.2 hR).symm
            rw [hLR] at hC ⊢
            exact ⟨gm, cm, rfl, hC.mono hs', hb, hb'.trans (hb.mono hs')⟩
          have HLr : Hid (∀ w' : World, Below wr.heap.size wr w' → OwnC w' W3.heap.size gl cl L) := fun w' hb' => HLc.out.below (hk'.trans (hb'.mono sr)) (by omega)
          obtain ⟨F, hF⟩ : ∃ F : List Ent, F = L.filter fun x => inR lo hh hi x.row := ⟨_, rfl⟩
          rw [← hF] at HMrg HIn
          clear hF
          go_upto_region 20 with fail
          go_region_with (first
            | (go_at_call 12; refine (HMrg.out _ ?hB).mono ?_; (case hB => (repeat (first | assumption | exact Below.refl _ _ | refine Below.drew ?_))); rintro e20 w20 ⟨gm, cm, rfl, hC20, hb20, b20⟩; have HC20 : Hid (OwnC w20 wr.heap.size gm cm F) := hC20; obtain ⟨d0, d1, d2⟩ := HCells.out w20 b20; clear hC20 hb20)
            | (go_at_call 32; refine (HIn.out _ ?hB).mono ?_; (case hB => (repeat (first | assumption | exact Below.refl _ _ | refine Below.drew ?_))); rintro e21 w21 ⟨gi, ci, rfl, hC21, hb21, b21⟩; have HC21 : Hid (OwnC w21 wr.heap.size gm cm F ∧ OwnC w21 wr.heap.size gi ci F) := ⟨HC20.out.below hb21 HC20.out.lt.2, hC21⟩; clear hC21 hb21)
            | (go_at_call 29; refine (HRp.out _ ?hB).mono ?_; (case hB => (repeat (first | assumption | exact Below.refl _ _ | refine Below.drew ?_))); rintro e23 w23 ⟨gp, cq, rfl, hC23, hb23, b23⟩; have HC23 : Hid (OwnC w23 wr.heap.size gp cq L ∧ OwnC w23 W3.heap.size gl cl L) := ⟨hC23, HLr.out w23 b23⟩; clear hC23 hb23)
            | (go_at_call 25; refine (lwCells_own HC23.out.1 HC23.out.2).mono ?_; rintro e24 w24 ⟨rfl, hb24⟩; have b24 : Below wr.heap.size wr w24 := b23.trans (hb24.mono b23.size); clear hb24)
            | (go_at_call 25; refine (lwCells_own HC21.out.1 HC21.out.2).mono ?_; rintro e22 w22 ⟨rfl, hb22⟩; have b22 : Below wr.heap.size wr w22 := b21.trans (hb22.mono b21.size); clear hb22))
          all_goals go_wp2_with fail
          all_goals go_ret
          all_goals exact ⟨rfl, (kc.trans (hk'.mono (by have := kc.size; omega))).trans (b24.mono (by have := kc.size; omega))⟩
end Go.Proofs.Ytnncedndlhfdkac.fnRuns

/-
  The maps of impl.gatherColumns: by column (a struct of three texts), and by timestamp.
-/
namespace Go.Proofs.Ytnncedndlhfdkac
open Go.ChangeShapes Go.WideShapes Go.ChangeAt Go.RowKit Go.Deep Go.Maps
set_option linter.unusedVariables false
set_option maxRecDepth 100000

theorem mapLaid : laidOutB Try.prog = true := by kernel_rfl
theorem rowCol : (73 : TypeId) < Try.prog.types.size := of_decide_eq_true (by kernel_rfl)
theorem wideCol : (match Try.prog.underlying 73 with | some (.array _ _) | some (.struct _) => true | _ => false) = true := by kernel_rfl
theorem lawCol : Keyed Try.prog 73 := Keyed.of_law (deep_law_laid mapLaid (m := 2) (by omega) rowCol (by kernel_rfl) wideCol)
theorem lawTs : Keyed Try.prog 61 := int_keyed Try.underlying61

abbrev colV (r f q : ByteArray) : Value := .agg #[.string r, .string f, .string q]
/-- What a column reads as. -/
def colL (r f q : ByteArray) : Lit := .string (keyBytes [.string r.data.toList, .string f.data.toList, .string q.data.toList])
theorem typesSome : ∃ n, Try.prog.types.size = n + 1 := ⟨Try.prog.types.size - 1, by have h : (73 : Nat) < Try.prog.types.size := rowCol; omega⟩
theorem keyCol {r f q : ByteArray} (hr : r.size ≤ maxLen) (hf : f.size ≤ maxLen) (hq : q.size ≤ maxLen) : keyOf Try.prog 73 (colV r f q) = some (colL r f q) := by
  have h1 : Try.prog.keyType 73 = true := by kernel_rfl
  have h2 : Try.prog.cellsOf 73 = 3 := by kernel_rfl
  obtain ⟨n, hn⟩ := typesSome
  unfold keyOf
  rw [Try.underlying73]
  simp only [h1, Value.formed, Try.underlying73, h2, hn]
  simp [Program.keyLits, Try.underlying73, Try.underlying9, h2, Try.cellsStr, Value.cells, hr, hf, hq, colL]
theorem keyTs {t : Int} (h : (Lit.int .u64 t).wf = true) : keyOf Try.prog 61 (.int .u64 t) = some (.int .u64 t) := keyOf_int_mk Try.underlying61 h

/-- An element reads as its own value. -/
def Rh : Value → Option (DataW Value × List MemPlace) := fun v => some (.held v, [])
theorem Rh_eq {v : Value} {x : DataW Value} {ps : List MemPlace} (h : Rh v = some (x, ps)) : x = .held v ∧ ps = [] := by
  unfold Rh at h
  simp at h
  exact ⟨h.1.symm, h.2⟩

/-- Block 'b' is a map from timestamps to entries: the function 'f'. -/
def Inn (w : World) (b n : Nat) (f : Int → Option Ent) : Prop :=
  ∃ D, w.ownsMap Try.prog 61 Rh b n D ∧ ∀ t, (Lit.int .u64 t).wf = true → (f t = none ∧ Maps.has D (.int .u64 t) = false) ∨ ∃ e, f t = some e ∧ Maps.has D (.int .u64 t) = true ∧ ∀ z, D.atKey (.int .u64 t) z = .held e.v
theorem Inn.lt {w : World} {b n : Nat} {f : Int → Option Ent} (h : Inn w b n f) : b < w.heap.size := by
  obtain ⟨D, h, _⟩ := h
  exact h.lt
theorem Inn.kept {w w' : World} {b n : Nat} {f : Int → Option Ent} {row : Option Nat} (h : Inn w b n f) (hg : w.grownBy w' row) (hne : some b ≠ row) : Inn w' b n f := by
  obtain ⟨D, h, k⟩ := h
  exact ⟨D, h.kept hg hne, k⟩
theorem Inn.mono {w : World} {b n n' : Nat} {f : Int → Option Ent} (h : Inn w b n f) (hn : n ≤ n') : Inn w b n' f := by
  obtain ⟨D, h, k⟩ := h
  exact ⟨D, h.mono hn, k⟩
theorem Inn.setCell {w : World} {b n : Nat} {f : Int → Option Ent} (h : Inn w b n f) {a : Addr} (ha : b ≠ a.block) (u : Value) : Inn (w.setCell a u) b n f := by
  obtain ⟨D, h, k⟩ := h
  exact ⟨D, h.setCell ha u, k⟩
theorem grown_setNew {w w' : World} {row : Option Nat} (h : w.grownBy w' row) {a : Addr} (ha : w.heap.size ≤ a.block) (u : Value) : w.grownBy (w'.setCell a u) row := by
  have k := (Below.refl a.block w').setCell (Nat.le_refl _) (p := a) u
  exact ⟨k.os.trans h.os, k.tape.trans h.tape, k.output.trans h.output, Nat.le_trans h.size k.size, fun j hj hne => (Below.heap_setCell w' a u j (by omega)).trans (h.block j hj hne)⟩
theorem below4 (w : World) (a b c d : Obj) : Below w.heap.size w ((((w.alloc a).alloc b).alloc c).alloc d) := ((((Below.refl _ _).alloc (Nat.le_refl _) _).alloc (by simp) _).alloc (by simp; omega) _).alloc (by simp; omega) _
theorem Inn.made (w : World) : Inn (w.alloc (.map #[] 0)) w.heap.size 0 (fun _ => none) :=
  ⟨.map [], World.ownsMap_made w Try.prog 61 Rh, fun t _ => .inl ⟨rfl, rfl⟩⟩

set_option maxHeartbeats 1000000 in
theorem withEarlier_del (d : Bool) (u : Int) (m : Option Nat) (e : Ent) (w : World) (hk : e.kind = 2) :
    Calls Try.prog 90 #[.agg #[.bool d, .int .u64 u, .map m], e.v] w fun r w' =>
      r = .returned (.agg #[.bool true, .int .u64 (max u e.ts), .map m]) ∧ Below w.heap.size w w' := by
  have g2 : (e.kind == 2) = true := by simp [hk]
  clear hk
  unfold Ent.v
  go_enter Try.func90, Try.ntmps90
  go_wp2
  refine bodyPost_ret (v := .agg #[.bool true, .int .u64 (max u e.ts), .map m]) (by simp [results, Try.results90, go_sem]) rfl ⟨rfl, ?_⟩
  exact (((Below.refl _ _).alloc (Nat.le_refl _) _).alloc (by simp) _).alloc (by simp; omega) _

set_option maxHeartbeats 1000000 in
theorem withEarlier_gone (u : Int) (m : Option Nat) (e : Ent) (w : World) (hk : ¬ e.kind = 2) (hu : e.ts ≤ u) :
    Calls Try.prog 90 #[.agg #[.bool true, .int .u64 u, .map m], e.v] w fun r w' =>
      r = .returned (.agg #[.bool true, .int .u64 u, .map m]) ∧ Below w.heap.size w w' := by
  have g2 : (e.kind == 2) = false := by simp [hk]
  clear hk
  unfold Ent.v
  go_enter Try.func90, Try.ntmps90
  go_wp2
  refine bodyPost_ret (v := .agg #[.bool true, .int .u64 u, .map m]) (by simp [results, Try.results90, go_sem]) rfl ⟨rfl, ?_⟩
  exact (((Below.refl _ _).alloc (Nat.le_refl _) _).alloc (by simp) _).alloc (by simp; omega) _

theorem zeroE6 (w : World) : (zeroValue 63).run Try.prog w = .ok (.agg #[.string ⟨#[]⟩, .string ⟨#[]⟩, .string ⟨#[]⟩, .int .u64 0, .int .i64 0, .string ⟨#[]⟩]) w := by kernel_rfl
/-- 'v, ok := m[t]' in a map of entries. -/
theorem Inn.look {w : World} {b n : Nat} {f : Int → Option Ent} (h : Inn w b n f) {t : Int} (ht : (Lit.int .u64 t).wf = true) :
    ∃ v : Ent, (Instr.lookup 107 (.map (some b)) (.int .u64 t) true).run Try.prog w = .ok (.tuple #[v.v, .bool (f t).isSome]) w := by
  obtain ⟨D, hD, hv⟩ := h
  obtain ⟨v, ps, hrun, hR⟩ := hD.look_ok lawTs Try.underlying107 (zeroE6 w) (zd := .held zeroE.v) (zp := []) rfl (keyTs ht)
  have hR' := (Rh_eq hR).1
  rcases hv t ht with ⟨h1, h2⟩ | ⟨e, h1, h2, h3⟩
  · rw [Maps.atKey_of_not_has h2] at hR'
    simp only [DataW.held.injEq] at hR'
    rw [← hR', h2] at hrun
    exact ⟨zeroE, by rw [h1]; exact hrun⟩
  · rw [h3] at hR'
    simp only [DataW.held.injEq] at hR'
    rw [← hR', h2] at hrun
    exact ⟨e, by rw [h1]; exact hrun⟩
theorem Inn.put {w : World} {b n : Nat} {f : Int → Option Ent} (h : Inn w b n f) (hn : n < maxLen) (e : Ent) (ht : (Lit.int .u64 e.ts).wf = true) :
    ∃ w', (Instr.mapUpdate 107 (.map (some b)) (.int .u64 e.ts) e.v).run Try.prog w = .ok () w' ∧ Inn w' b (n + 1) (fun t => if t = e.ts then some e else f t) ∧ w.grownBy w' (some b) := by
  obtain ⟨D, hD, hv⟩ := h
  obtain ⟨w', hrun, ho, hg⟩ := hD.update lawTs Try.underlying107 hn (keyTs ht) (val := e.v) (d := .held e.v) (ps := []) rfl
  refine ⟨w', hrun, ⟨_, ho, fun t hw => ?_⟩, hg⟩
  by_cases he : t = e.ts
  · subst he
    refine .inr ⟨e, by simp, Maps.has_put_same hD.isMap (lawTs.key (keyTs ht)) _, fun z => Maps.atKey_put_same hD.isMap (lawTs.key (keyTs ht)) _ z⟩
  · have hne : (Lit.int .u64 t) ≠ (Lit.int .u64 e.ts) := fun q => he (by injection q)
    rcases hv t hw with ⟨h1, h2⟩ | ⟨e', h1, h2, h3⟩
    · exact .inl ⟨by simp [he, h1], by rw [Maps.has_put_other hne]; exact h2⟩
    · exact .inr ⟨e', by simp [he, h1], by rw [Maps.has_put_other hne]; exact h2, fun z => by rw [Maps.atKey_put_other hne]; exact h3 z⟩

set_option maxHeartbeats 1000000 in
set_option maxRecDepth 100000 in
theorem withEarlier_old (d : Bool) (u : Int) (b n : Nat) (f : Int → Option Ent) (e : Ent) (w : World) (hk : ¬ e.kind = 2) (hu : d = true → ¬ e.ts ≤ u) (hI : Inn w b n f) (hn : n < maxLen) (hw : (Lit.int .u64 e.ts).wf = true) :
    Calls Try.prog 90 #[.agg #[.bool d, .int .u64 u, .map (some b)], e.v] w fun r w' =>
      r = .returned (.agg #[.bool d, .int .u64 u, .map (some b)]) ∧ Inn w' b (n + 1) (fun t => if t = e.ts then (if (f t).isSome then f t else some e) else f t) ∧ w.grownBy w' (some b) := by
  have g2 : (e.kind == 2) = false := by simp [hk]
  have hb := hI.lt
  have HI : Hid (Inn w b n f ∧ n < maxLen ∧ (Lit.int .u64 e.ts).wf = true) := ⟨hI, hn, hw⟩
  clear hk hI hn hw
  have hnil : ∀ wx, (binOp .eql 107 (.map (some b)) (.map none)).run Try.prog wx = .ok (.bool false) wx :=
    fun wx => run_eql_map_nil wx _ _ _ (some b) Try.underlying107
  have hbox : Below w.heap.size w (((w.alloc (Obj.cells #[.bool d, .int .u64 u, .map (some b)] 109)).alloc (Obj.cells #[.string e.row, .string e.fam, .string e.qual, .int .u64 e.ts, .int .i64 e.kind, .string e.val] 63)).alloc (Obj.cells #[.bool false, .int .u64 0, .map none] 109)) :=
    (((Below.refl _ _).alloc (Nat.le_refl _) _).alloc (by simp) _).alloc (by simp; omega) _
  have hIb := HI.out.1.kept (row := none) ⟨hbox.os, hbox.tape, hbox.output, hbox.size, fun k hk _ => hbox.block k hk⟩ (by simp)
  obtain ⟨v, hlook⟩ := hIb.look HI.out.2.2
  have HIb : Hid (Inn (((w.alloc (Obj.cells #[.bool d, .int .u64 u, .map (some b)] 109)).alloc (Obj.cells #[.string e.row, .string e.fam, .string e.qual, .int .u64 e.ts, .int .i64 e.kind, .string e.val] 63)).alloc (Obj.cells #[.bool false, .int .u64 0, .map none] 109)) b n f) := hIb
  clear hIb hbox
  have hIc := HIb.out.kept (row := none) (World.grownBy_alloc _ (Obj.cells #[.string v.row, .string v.fam, .string v.qual, .int .u64 v.ts, .int .i64 v.kind, .string v.val] 63) none) (by simp)
  obtain ⟨w4, hput, hI4, hg4⟩ := hIc.put HI.out.2.1 e HI.out.2.2
  have hbx : Below w.heap.size w ((((w.alloc (Obj.cells #[.bool d, .int .u64 u, .map (some b)] 109)).alloc (Obj.cells #[.string e.row, .string e.fam, .string e.qual, .int .u64 e.ts, .int .i64 e.kind, .string e.val] 63)).alloc (Obj.cells #[.bool false, .int .u64 0, .map none] 109)).alloc (Obj.cells #[.string v.row, .string v.fam, .string v.qual, .int .u64 v.ts, .int .i64 v.kind, .string v.val] 63)) := ((((Below.refl _ _).alloc (Nat.le_refl _) _).alloc (by simp) _).alloc (by simp; omega) _).alloc (by simp; omega) _
  have hs4 := hg4.size
  simp at hs4
  have hbl : ∀ j, j ≠ b → j < w.heap.size + 4 → w4.heap[j]? = ((((w.alloc (Obj.cells #[.bool d, .int .u64 u, .map (some b)] 109)).alloc (Obj.cells #[.string e.row, .string e.fam, .string e.qual, .int .u64 e.ts, .int .i64 e.kind, .string e.val] 63)).alloc (Obj.cells #[.bool false, .int .u64 0, .map none] 109)).alloc (Obj.cells #[.string v.row, .string v.fam, .string v.qual, .int .u64 v.ts, .int .i64 v.kind, .string v.val] 63)).heap[j]? := fun j h1 h2 => hg4.block j (by simp; omega) (fun q => h1 (by injection q))
  have c40 : ∀ o, w4.cell? ⟨w.heap.size, o, none⟩ = ((((w.alloc (Obj.cells #[.bool d, .int .u64 u, .map (some b)] 109)).alloc (Obj.cells #[.string e.row, .string e.fam, .string e.qual, .int .u64 e.ts, .int .i64 e.kind, .string e.val] 63)).alloc (Obj.cells #[.bool false, .int .u64 0, .map none] 109)).alloc (Obj.cells #[.string v.row, .string v.fam, .string v.qual, .int .u64 v.ts, .int .i64 v.kind, .string v.val] 63)).cell? ⟨w.heap.size, o, none⟩ := fun o => World.cell?_of_block (hbl _ (by show w.heap.size ≠ b; omega) (by show w.heap.size < _; omega))
  have c42 : ∀ o, w4.cell? ⟨w.heap.size + 1 + 1, o, none⟩ = ((((w.alloc (Obj.cells #[.bool d, .int .u64 u, .map (some b)] 109)).alloc (Obj.cells #[.string e.row, .string e.fam, .string e.qual, .int .u64 e.ts, .int .i64 e.kind, .string e.val] 63)).alloc (Obj.cells #[.bool false, .int .u64 0, .map none] 109)).alloc (Obj.cells #[.string v.row, .string v.fam, .string v.qual, .int .u64 v.ts, .int .i64 v.kind, .string v.val] 63)).cell? ⟨w.heap.size + 1 + 1, o, none⟩ := fun o => World.cell?_of_block (hbl _ (by show w.heap.size + 1 + 1 ≠ b; omega) (by show w.heap.size + 1 + 1 < _; omega))
  have f42 : ∀ o, w4.frozen? ⟨w.heap.size + 1 + 1, o, none⟩ = ((((w.alloc (Obj.cells #[.bool d, .int .u64 u, .map (some b)] 109)).alloc (Obj.cells #[.string e.row, .string e.fam, .string e.qual, .int .u64 e.ts, .int .i64 e.kind, .string e.val] 63)).alloc (Obj.cells #[.bool false, .int .u64 0, .map none] 109)).alloc (Obj.cells #[.string v.row, .string v.fam, .string v.qual, .int .u64 v.ts, .int .i64 v.kind, .string v.val] 63)).frozen? ⟨w.heap.size + 1 + 1, o, none⟩ := fun o => World.frozen?_of_block (hbl _ (by show w.heap.size + 1 + 1 ≠ b; omega) (by show w.heap.size + 1 + 1 < _; omega))
  have H4 : Hid (Inn w4 b (n + 1) (fun t => if t = e.ts then some e else f t) ∧ w.grownBy w4 (some b)) :=
    ⟨hI4, ⟨hg4.os.trans hbx.os, hg4.tape.trans hbx.tape, hg4.output.trans hbx.output, by omega, fun j hj hne => (hg4.block j (by simp; omega) hne).trans (hbx.block j hj)⟩⟩
  clear hIc hI4 hg4 hbl hbx
  unfold Ent.v at *
  cases hf : (f e.ts).isSome
  · rw [hf] at hlook
    have HF : Hid ((f e.ts).isSome = false) := hf
    clear hf
    cases d
    · clear hu
      go_enter Try.func90, Try.ntmps90
      go_wp2_with fail
      refine bodyPost_ret (v := .agg #[.bool false, .int .u64 u, .map (some b)]) (by simp [results, Try.results90, go_sem, c42]) rfl ⟨rfl, ?_, ?_⟩
      · rw [show (fun t => if t = e.ts then (if (f t).isSome then f t else some e) else f t) = (fun t => if t = e.ts then some e else f t) from funext fun t => by
          by_cases q : t = e.ts
          · subst q; simp [HF.out]
          · simp [q]]
        exact ((H4.out.1.setCell (by show b ≠ w.heap.size + 1 + 1; omega) _).setCell (by show b ≠ w.heap.size + 1 + 1; omega) _).setCell (by show b ≠ w.heap.size + 1 + 1; omega) _
      · exact grown_setNew (grown_setNew (grown_setNew H4.out.2 (by show w.heap.size ≤ w.heap.size + 1 + 1; omega) _) (by show w.heap.size ≤ w.heap.size + 1 + 1; omega) _) (by show w.heap.size ≤ w.heap.size + 1 + 1; omega) _
    · have hu' : ¬ e.ts ≤ u := hu rfl
      clear hu
      go_enter Try.func90, Try.ntmps90
      go_wp2_with fail
      refine bodyPost_ret (v := .agg #[.bool true, .int .u64 u, .map (some b)]) (by simp [results, Try.results90, go_sem, c42]) rfl ⟨rfl, ?_, ?_⟩
      · rw [show (fun t => if t = e.ts then (if (f t).isSome then f t else some e) else f t) = (fun t => if t = e.ts then some e else f t) from funext fun t => by
          by_cases q : t = e.ts
          · subst q; simp [HF.out]
          · simp [q]]
        exact ((H4.out.1.setCell (by show b ≠ w.heap.size + 1 + 1; omega) _).setCell (by show b ≠ w.heap.size + 1 + 1; omega) _).setCell (by show b ≠ w.heap.size + 1 + 1; omega) _
      · exact grown_setNew (grown_setNew (grown_setNew H4.out.2 (by show w.heap.size ≤ w.heap.size + 1 + 1; omega) _) (by show w.heap.size ≤ w.heap.size + 1 + 1; omega) _) (by show w.heap.size ≤ w.heap.size + 1 + 1; omega) _
  · rw [hf] at hlook
    have HF : Hid ((f e.ts).isSome = true) := hf
    clear hf hput c40 c42 f42
    cases d
    · clear hu
      go_enter Try.func90, Try.ntmps90
      go_wp2_with fail
      refine bodyPost_ret (v := .agg #[.bool false, .int .u64 u, .map (some b)]) (by simp [results, Try.results90, go_sem]) rfl ⟨rfl, ?_, ?_⟩
      · rw [show (fun t => if t = e.ts then (if (f t).isSome then f t else some e) else f t) = f from funext fun t => by
          by_cases q : t = e.ts
          · subst q; simp [HF.out]
          · simp [q]]
        exact (HI.out.1.kept (row := none) (grown_of_below (below4 w _ _ _ _) none) (by simp)).mono (by omega)
      · exact grown_of_below (below4 w _ _ _ _) _
    · have hu' : ¬ e.ts ≤ u := hu rfl
      clear hu
      go_enter Try.func90, Try.ntmps90
      go_wp2_with fail
      refine bodyPost_ret (v := .agg #[.bool true, .int .u64 u, .map (some b)]) (by simp [results, Try.results90, go_sem]) rfl ⟨rfl, ?_, ?_⟩
      · rw [show (fun t => if t = e.ts then (if (f t).isSome then f t else some e) else f t) = f from funext fun t => by
          by_cases q : t = e.ts
          · subst q; simp [HF.out]
          · simp [q]]
        exact (HI.out.1.kept (row := none) (grown_of_below (below4 w _ _ _ _) none) (by simp)).mono (by omega)
      · exact grown_of_below (below4 w _ _ _ _) _

set_option maxHeartbeats 1000000 in
set_option maxRecDepth 100000 in
theorem withEarlier_new (d : Bool) (u : Int) (e : Ent) (w : World) (hk : ¬ e.kind = 2) (hu : d = true → ¬ e.ts ≤ u) (hw : (Lit.int .u64 e.ts).wf = true) :
    Calls Try.prog 90 #[.agg #[.bool d, .int .u64 u, .map none], e.v] w fun r w' =>
      ∃ b, r = .returned (.agg #[.bool d, .int .u64 u, .map (some b)]) ∧ w.heap.size ≤ b ∧ Inn w' b 1 (fun t => if t = e.ts then some e else none) ∧ Below w.heap.size w w' := by
  have g2 : (e.kind == 2) = false := by simp [hk]
  have HI : Hid ((Lit.int .u64 e.ts).wf = true) := hw
  clear hk hw
  have hnil : ∀ wx, (binOp .eql 107 (.map none) (.map none)).run Try.prog wx = .ok (.bool true) wx :=
    fun wx => run_eql_map_nil wx _ _ _ none Try.underlying107
  have hmm := @run_makeMap Try.prog
  have hI4 : Inn ((((w.alloc (Obj.cells #[.bool d, .int .u64 u, .map (some (w.heap.size + 1 + 1 + 1))] 109)).alloc (Obj.cells #[.string e.row, .string e.fam, .string e.qual, .int .u64 e.ts, .int .i64 e.kind, .string e.val] 63)).alloc (Obj.cells #[.bool false, .int .u64 0, .map none] 109)).alloc (Obj.map #[] 0)) (w.heap.size + 1 + 1 + 1) 0 (fun _ => none) := by
    have h := Inn.made (((w.alloc (Obj.cells #[.bool d, .int .u64 u, .map (some (w.heap.size + 1 + 1 + 1))] 109)).alloc (Obj.cells #[.string e.row, .string e.fam, .string e.qual, .int .u64 e.ts, .int .i64 e.kind, .string e.val] 63)).alloc (Obj.cells #[.bool false, .int .u64 0, .map none] 109))
    have hz : (((w.alloc (Obj.cells #[.bool d, .int .u64 u, .map (some (w.heap.size + 1 + 1 + 1))] 109)).alloc (Obj.cells #[.string e.row, .string e.fam, .string e.qual, .int .u64 e.ts, .int .i64 e.kind, .string e.val] 63)).alloc (Obj.cells #[.bool false, .int .u64 0, .map none] 109)).heap.size = w.heap.size + 1 + 1 + 1 := by simp
    rw [hz] at h
    exact h
  obtain ⟨v, hlook⟩ := hI4.look HI.out
  have hI5 := hI4.kept (row := none) (World.grownBy_alloc _ (Obj.cells #[.string v.row, .string v.fam, .string v.qual, .int .u64 v.ts, .int .i64 v.kind, .string v.val] 63) none) (by simp)
  obtain ⟨w6, hput, hI6, hg6⟩ := hI5.put (by unfold maxLen; omega) e HI.out
  have hbx : Below w.heap.size w (((((w.alloc (Obj.cells #[.bool d, .int .u64 u, .map (some (w.heap.size + 1 + 1 + 1))] 109)).alloc (Obj.cells #[.string e.row, .string e.fam, .string e.qual, .int .u64 e.ts, .int .i64 e.kind, .string e.val] 63)).alloc (Obj.cells #[.bool false, .int .u64 0, .map none] 109)).alloc (Obj.map #[] 0)).alloc (Obj.cells #[.string v.row, .string v.fam, .string v.qual, .int .u64 v.ts, .int .i64 v.kind, .string v.val] 63)) := (below4 w _ _ _ _).alloc (by simp; omega) _
  have hs6 := hg6.size
  simp at hs6
  have hbl : ∀ j, j ≠ w.heap.size + 1 + 1 + 1 → j < w.heap.size + 5 → w6.heap[j]? = (((((w.alloc (Obj.cells #[.bool d, .int .u64 u, .map (some (w.heap.size + 1 + 1 + 1))] 109)).alloc (Obj.cells #[.string e.row, .string e.fam, .string e.qual, .int .u64 e.ts, .int .i64 e.kind, .string e.val] 63)).alloc (Obj.cells #[.bool false, .int .u64 0, .map none] 109)).alloc (Obj.map #[] 0)).alloc (Obj.cells #[.string v.row, .string v.fam, .string v.qual, .int .u64 v.ts, .int .i64 v.kind, .string v.val] 63)).heap[j]? := fun j h1 h2 => hg6.block j (by simp; omega) (fun q => h1 (by injection q))
  have c60 : ∀ o, w6.cell? ⟨w.heap.size, o, none⟩ = (((((w.alloc (Obj.cells #[.bool d, .int .u64 u, .map (some (w.heap.size + 1 + 1 + 1))] 109)).alloc (Obj.cells #[.string e.row, .string e.fam, .string e.qual, .int .u64 e.ts, .int .i64 e.kind, .string e.val] 63)).alloc (Obj.cells #[.bool false, .int .u64 0, .map none] 109)).alloc (Obj.map #[] 0)).alloc (Obj.cells #[.string v.row, .string v.fam, .string v.qual, .int .u64 v.ts, .int .i64 v.kind, .string v.val] 63)).cell? ⟨w.heap.size, o, none⟩ := fun o => World.cell?_of_block (hbl _ (by show w.heap.size ≠ _; omega) (by show w.heap.size < _; omega))
  have c62 : ∀ o, w6.cell? ⟨w.heap.size + 1 + 1, o, none⟩ = (((((w.alloc (Obj.cells #[.bool d, .int .u64 u, .map (some (w.heap.size + 1 + 1 + 1))] 109)).alloc (Obj.cells #[.string e.row, .string e.fam, .string e.qual, .int .u64 e.ts, .int .i64 e.kind, .string e.val] 63)).alloc (Obj.cells #[.bool false, .int .u64 0, .map none] 109)).alloc (Obj.map #[] 0)).alloc (Obj.cells #[.string v.row, .string v.fam, .string v.qual, .int .u64 v.ts, .int .i64 v.kind, .string v.val] 63)).cell? ⟨w.heap.size + 1 + 1, o, none⟩ := fun o => World.cell?_of_block (hbl _ (by show w.heap.size + 1 + 1 ≠ _; omega) (by show w.heap.size + 1 + 1 < _; omega))
  have f62 : ∀ o, w6.frozen? ⟨w.heap.size + 1 + 1, o, none⟩ = (((((w.alloc (Obj.cells #[.bool d, .int .u64 u, .map (some (w.heap.size + 1 + 1 + 1))] 109)).alloc (Obj.cells #[.string e.row, .string e.fam, .string e.qual, .int .u64 e.ts, .int .i64 e.kind, .string e.val] 63)).alloc (Obj.cells #[.bool false, .int .u64 0, .map none] 109)).alloc (Obj.map #[] 0)).alloc (Obj.cells #[.string v.row, .string v.fam, .string v.qual, .int .u64 v.ts, .int .i64 v.kind, .string v.val] 63)).frozen? ⟨w.heap.size + 1 + 1, o, none⟩ := fun o => World.frozen?_of_block (hbl _ (by show w.heap.size + 1 + 1 ≠ _; omega) (by show w.heap.size + 1 + 1 < _; omega))
  have H6 : Hid (Inn w6 (w.heap.size + 1 + 1 + 1) 1 (fun t => if t = e.ts then some e else none) ∧ Below w.heap.size w w6) :=
    ⟨hI6, ⟨hg6.os.trans hbx.os, hg6.tape.trans hbx.tape, hg6.output.trans hbx.output, by omega, fun j hj => (hg6.block j (by simp; omega) (fun q => by injection q; omega)).trans (hbx.block j hj)⟩⟩
  clear hI4 hI5 hI6 hg6 hbl hbx
  unfold Ent.v at *
  cases d
  · clear hu
    go_enter Try.func90, Try.ntmps90
    go_wp2_with fail
    refine bodyPost_ret (v := .agg #[.bool false, .int .u64 u, .map (some (w.heap.size + 1 + 1 + 1))]) (by simp [results, Try.results90, go_sem, c62]) rfl ⟨_, rfl, by omega, ?_, ?_⟩
    · exact ((H6.out.1.setCell (by show w.heap.size + 1 + 1 + 1 ≠ w.heap.size + 1 + 1; omega) _).setCell (by show w.heap.size + 1 + 1 + 1 ≠ w.heap.size + 1 + 1; omega) _).setCell (by show w.heap.size + 1 + 1 + 1 ≠ w.heap.size + 1 + 1; omega) _
    · exact ((H6.out.2.setCell (by show w.heap.size ≤ w.heap.size + 1 + 1; omega) _).setCell (by show w.heap.size ≤ w.heap.size + 1 + 1; omega) _).setCell (by show w.heap.size ≤ w.heap.size + 1 + 1; omega) _
  · have hu' : ¬ e.ts ≤ u := hu rfl
    clear hu
    go_enter Try.func90, Try.ntmps90
    go_wp2_with fail
    refine bodyPost_ret (v := .agg #[.bool true, .int .u64 u, .map (some (w.heap.size + 1 + 1 + 1))]) (by simp [results, Try.results90, go_sem, c62]) rfl ⟨_, rfl, by omega, ?_, ?_⟩
    · exact ((H6.out.1.setCell (by show w.heap.size + 1 + 1 + 1 ≠ w.heap.size + 1 + 1; omega) _).setCell (by show w.heap.size + 1 + 1 + 1 ≠ w.heap.size + 1 + 1; omega) _).setCell (by show w.heap.size + 1 + 1 + 1 ≠ w.heap.size + 1 + 1; omega) _
    · exact ((H6.out.2.setCell (by show w.heap.size ≤ w.heap.size + 1 + 1; omega) _).setCell (by show w.heap.size ≤ w.heap.size + 1 + 1; omega) _).setCell (by show w.heap.size ≤ w.heap.size + 1 + 1; omega) _
end Go.Proofs.Ytnncedndlhfdkac

/-
  The columns of a list of writes: the model, and the map that holds them.
-/
namespace Go.Proofs.Ytnncedndlhfdkac
open Go.ChangeShapes Go.WideShapes Go.ChangeAt Go.RowKit Go.Deep Go.Maps
set_option linter.unusedVariables false
set_option maxRecDepth 100000

/-- What a list of writes leaves of one column. -/
structure CW where
  d : Bool
  u : Int
  f : Int → Option Ent
def cw0 : CW := ⟨false, 0, fun _ => none⟩
def cwAdd (c : CW) (e : Ent) : CW :=
  if e.kind = 2 then ⟨true, max c.u e.ts, c.f⟩
  else if c.d = true ∧ e.ts ≤ c.u then c
  else ⟨c.d, c.u, fun t => if t = e.ts then (if (c.f t).isSome then c.f t else some e) else c.f t⟩
/-- A column's name. -/
abbrev Col := ByteArray × ByteArray × ByteArray
def Ent.wcol (e : Ent) : Col := (e.row, e.fam, e.qual)
def colsOf : List Ent → Col → Option CW
  | [], _ => none
  | w :: rest, c => if c = w.wcol then some (cwAdd ((colsOf rest c).getD cw0) w) else colsOf rest c

def Col.okc (c : Col) : Prop := c.1.size ≤ maxLen ∧ c.2.1.size ≤ maxLen ∧ c.2.2.size ≤ maxLen
abbrev Col.v (c : Col) : Value := colV c.1 c.2.1 c.2.2
def Col.l (c : Col) : Lit := colL c.1 c.2.1 c.2.2
theorem Col.key {c : Col} (h : c.okc) : keyOf Try.prog 73 c.v = some c.l := keyCol h.1 h.2.1 h.2.2
theorem Col.inj {c c' : Col} (h : c.okc) (h' : c'.okc) (e : c.l = c'.l) : c = c' := by
  have h1 := Col.key h
  have h2 := Col.key h'
  rw [← e] at h2
  have := lawCol.inj h1 h2
  obtain ⟨a, b, d⟩ := c
  obtain ⟨a', b', d'⟩ := c'
  simp at this
  obtain ⟨rfl, rfl, rfl⟩ := this
  rfl

/-- The inner map of a column. -/
def Inner (w : World) (base N : Nat) (m : Option Nat) (f : Int → Option Ent) : Prop :=
  (m = none ∧ f = fun _ => none) ∨ ∃ b n, m = some b ∧ Inn w b n f ∧ n ≤ N ∧ base ≤ b
theorem Inner.kept {w w' : World} {base N : Nat} {m : Option Nat} {f : Int → Option Ent} {row : Option Nat} (h : Inner w base N m f) (hg : w.grownBy w' row) (hne : m = none ∨ m ≠ row) : Inner w' base N m f := by
  rcases h with h | ⟨b, n, rfl, h, hn, hb⟩
  · exact .inl h
  · refine .inr ⟨b, n, rfl, h.kept hg ?_, hn, hb⟩
    rcases hne with e | e
    · cases e
    · exact e
theorem Inner.mono {w : World} {base N N' : Nat} {m : Option Nat} {f : Int → Option Ent} (h : Inner w base N m f) (hn : N ≤ N') : Inner w base N' m f := by
  rcases h with h | ⟨b, n, rfl, h, h1, hb⟩
  · exact .inl h
  · exact .inr ⟨b, n, rfl, h, by omega, hb⟩

/-- Block 'B' is the map of the columns 'G'; 'M' says where their inner maps lie. -/
structure Outer (w : World) (base B N : Nat) (G : Col → Option CW) (M : Col → Option Nat) : Prop where
  map : ∃ D, w.ownsMap Try.prog 73 Rh B N D ∧ ∀ c, Col.okc c → (G c = none ∧ Maps.has D c.l = false) ∨ ∃ k, G c = some k ∧ Maps.has D c.l = true ∧ ∀ z, D.atKey c.l z = .held (.agg #[.bool k.d, .int .u64 k.u, .map (M c)])
  inner : ∀ c k, G c = some k → Inner w base N (M c) k.f
  nom : ∀ c, G c = none → M c = none
  apart : ∀ c c' b, M c = some b → M c' = some b → c = c'
  off : ∀ c b, M c = some b → b ≠ B
  ok : ∀ c k, G c = some k → Col.okc c

theorem zeroCW (w : World) : (zeroValue 109).run Try.prog w = .ok (.agg #[.bool false, .int .u64 0, .map none]) w := by kernel_rfl

theorem Outer.look {w : World} {base B N : Nat} {G : Col → Option CW} {M : Col → Option Nat} (h : Outer w base B N G M) {c : Col} (hc : Col.okc c) :
    (Instr.lookup 105 (.map (some B)) c.v false).run Try.prog w = .ok (.agg #[.bool ((G c).getD cw0).d, .int .u64 ((G c).getD cw0).u, .map (M c)]) w := by
  obtain ⟨D, hD, hv⟩ := h.map
  obtain ⟨v, ps, hrun, hR⟩ := hD.lookup lawCol Try.underlying105 (zeroCW w) (zd := .held (.agg #[.bool false, .int .u64 0, .map none])) (zp := []) rfl (Col.key hc)
  have hR' := (Rh_eq hR).1
  rcases hv c hc with ⟨h1, h2⟩ | ⟨k, h1, h2, h3⟩
  · rw [Maps.atKey_of_not_has h2] at hR'
    simp only [DataW.held.injEq] at hR'
    rw [h1, h.nom c h1, hrun, ← hR']; rfl
  · rw [h3] at hR'
    simp only [DataW.held.injEq] at hR'
    rw [h1, hrun, ← hR']; rfl

theorem Outer.lt {w : World} {base B N : Nat} {G : Col → Option CW} {M : Col → Option Nat} (h : Outer w base B N G M) : B < w.heap.size := by
  obtain ⟨D, hD, _⟩ := h.map
  exact hD.lt
theorem Outer.inLt {w : World} {base B N : Nat} {G : Col → Option CW} {M : Col → Option Nat} (h : Outer w base B N G M) {c : Col} {b : Nat} (hb : M c = some b) : b < w.heap.size ∧ base ≤ b := by
  cases hg : G c with
  | none => rw [h.nom c hg] at hb; cases hb
  | some k =>
    rcases h.inner c k hg with ⟨e, _⟩ | ⟨b', n, e, hi, _, hbb⟩
    · rw [e] at hb; cases hb
    · rw [e] at hb
      injection hb with hb
      subst hb
      exact ⟨hi.lt, hbb⟩
theorem Outer.kept {w w' : World} {base B N : Nat} {G : Col → Option CW} {M : Col → Option Nat} (h : Outer w base B N G M) (hg : w.grownBy w' none) : Outer w' base B N G M := by
  obtain ⟨D, hD, hv⟩ := h.map
  exact ⟨⟨D, hD.kept hg (by simp), hv⟩, fun c k hk => (h.inner c k hk).kept hg (by cases M c <;> simp), h.nom, h.apart, h.off, h.ok⟩
theorem Outer.made (w : World) (base : Nat) : Outer (w.alloc (.map #[] 0)) base w.heap.size 0 (fun _ => none) (fun _ => none) :=
  ⟨⟨.map [], World.ownsMap_made w Try.prog 73 Rh, fun c _ => .inl ⟨rfl, rfl⟩⟩, fun c k h => (by cases h), fun _ _ => rfl, fun _ _ _ h => (by cases h), fun _ _ h => (by cases h), fun _ _ h => (by cases h)⟩

theorem Outer.put {w w' : World} {base B N : Nat} {G : Col → Option CW} {M : Col → Option Nat} (h : Outer w base B N G M) {c : Col} (hc : Col.okc c) (hN : N < maxLen) (hg : w.grownBy w' (M c)) (k : CW) (m : Option Nat)
    (hi : Inner w' base (N + 1) m k.f) (hm : m = M c ∨ (M c = none ∧ ∃ b, m = some b ∧ w.heap.size ≤ b)) :
    ∃ w'', (Instr.mapUpdate 105 (.map (some B)) c.v (.agg #[.bool k.d, .int .u64 k.u, .map m])).run Try.prog w' = .ok () w'' ∧
      Outer w'' base B (N + 1) (fun x => if x = c then some k else G x) (fun x => if x = c then m else M x) ∧ w'.grownBy w'' (some B) := by
  obtain ⟨D, hD, hv⟩ := h.map
  have hne : some B ≠ M c := fun q => h.off c B q.symm rfl
  obtain ⟨w'', hrun, ho, hg2⟩ := (hD.kept hg hne).update lawCol Try.underlying105 hN (Col.key hc) (val := .agg #[.bool k.d, .int .u64 k.u, .map m]) (d := .held (.agg #[.bool k.d, .int .u64 k.u, .map m])) (ps := []) rfl
  clear hN
  have hmB : ∀ b, m = some b → b ≠ B := fun b hb => by
    rcases hm with e | ⟨_, b', e, hlt⟩
    · rw [e] at hb; exact h.off c b hb
    · rw [e] at hb
      injection hb with hb
      have := h.lt
      omega
  refine ⟨w'', hrun, ⟨⟨_, ho, fun x hx => ?_⟩, fun x kx hk => ?_, fun x hx => ?_, fun x y b hx hy => ?_, fun x b hx => ?_, fun x kx hk => ?_⟩, hg2⟩
  · by_cases e : x = c
    · subst e
      exact .inr ⟨k, by simp, Maps.has_put_same (hD.kept hg hne).isMap (lawCol.key (Col.key hc)) _, fun z => by rw [if_pos rfl]; exact Maps.atKey_put_same (hD.kept hg hne).isMap (lawCol.key (Col.key hc)) _ z⟩
    · have hl : x.l ≠ c.l := fun q => e (Col.inj hx hc q)
      rcases hv x hx with ⟨h1, h2⟩ | ⟨kk, h1, h2, h3⟩
      · exact .inl ⟨by simp [e, h1], by rw [Maps.has_put_other hl]; exact h2⟩
      · exact .inr ⟨kk, by simp [e, h1], by rw [Maps.has_put_other hl]; exact h2, fun z => by rw [Maps.atKey_put_other hl, if_neg e]; exact h3 z⟩
  · by_cases e : x = c
    · subst e
      simp at hk
      subst hk
      simp only [if_true]
      refine hi.kept hg2 ?_
      cases hq : m with
      | none => exact .inl rfl
      | some b => exact .inr (fun q => hmB b hq (by injection q))
    · simp [e] at hk
      simp only [e, if_false]
      have h0 := h.inner x kx hk
      have h1 : Inner w' base N (M x) kx.f := h0.kept hg (by
        cases hq : M x with
        | none => exact .inl rfl
        | some b => exact .inr (fun q => e (h.apart x c b hq q.symm)))
      refine (h1.kept hg2 ?_).mono (by omega)
      cases hq : M x with
      | none => exact .inl rfl
      | some b => exact .inr (fun q => h.off x b hq (by injection q))
  · by_cases e : x = c
    · simp [e] at hx
    · simp [e] at hx ⊢
      exact h.nom x hx
  · by_cases e : x = c
    · by_cases e' : y = c
      · rw [e, e']
      · simp [e] at hx
        simp [e'] at hy
        rcases hm with q | ⟨_, b', q, hlt⟩
        · rw [q] at hx; rw [e]; exact h.apart c y b hx hy
        · rw [q] at hx
          have hx' : b' = b := Option.some.inj hx
          exact absurd (h.inLt hy).1 (by rw [← hx']; exact Nat.not_lt.2 hlt)
    · by_cases e' : y = c
      · simp [e] at hx
        simp [e'] at hy
        rcases hm with q | ⟨_, b', q, hlt⟩
        · rw [q] at hy; rw [e']; exact h.apart x c b hx hy
        · rw [q] at hy
          have hy' : b' = b := Option.some.inj hy
          exact absurd (h.inLt hx).1 (by rw [← hy']; exact Nat.not_lt.2 hlt)
      · simp [e] at hx
        simp [e'] at hy
        exact h.apart x y b hx hy
  · by_cases e : x = c
    · simp [e] at hx; exact hmB b hx
    · simp [e] at hx; exact h.off x b hx
  · by_cases e : x = c
    · rw [e]; exact hc
    · simp [e] at hk; exact h.ok x kx hk
end Go.Proofs.Ytnncedndlhfdkac

/-
  What the columns of a list of writes hold is what its run keeps.
-/
namespace Go.Proofs.Ytnncedndlhfdkac
set_option linter.unusedVariables false

theorem sameCol_wcol {a b : Ent} : sameCol a b = true ↔ a.wcol = b.wcol := by
  rw [sameCol_iff]
  unfold Ent.wcol
  simp
theorem kills_of {v e : Ent} (h : kills v e = true) : v.wcol = e.wcol ∧ ((v.kind = 2 ∧ e.ts ≤ v.ts) ∨ (¬ v.kind = 2 ∧ v.ts = e.ts)) := by
  unfold kills at h
  rw [Bool.and_eq_true] at h
  refine ⟨sameCol_wcol.1 h.1, ?_⟩
  by_cases k : v.kind = 2
  · left
    have := h.2
    rw [if_pos (by simp [k])] at this
    exact ⟨k, of_decide_eq_true this⟩
  · right
    have := h.2
    rw [if_neg (by simp [k])] at this
    exact ⟨k, by simpa using this⟩
theorem kills_mk {v e : Ent} (h : v.wcol = e.wcol) (k : (v.kind = 2 ∧ e.ts ≤ v.ts) ∨ (¬ v.kind = 2 ∧ v.ts = e.ts)) : kills v e = true := by
  unfold kills
  rw [sameCol_wcol.2 h, Bool.true_and]
  rcases k with ⟨k, q⟩ | ⟨k, q⟩
  · rw [if_pos (by simp [k])]; simpa using q
  · rw [if_neg (by simp [k])]; simpa using q
theorem stands_succ (w : Ent) (l : List Ent) (i : Nat) : Stands (w :: l) (i + 1) ↔ Stands l i := by
  constructor
  · intro h j v e h1 h2 h3
    exact h (j + 1) v e (by omega) (by simpa using h2) (by simpa using h3)
  · intro h j v e h1 h2 h3
    obtain ⟨j', rfl⟩ : ∃ j', j = j' + 1 := ⟨j - 1, by omega⟩
    exact h j' v e (by omega) (by simpa using h2) (by simpa using h3)
theorem stands_zero (w : Ent) (l : List Ent) : Stands (w :: l) 0 ↔ ∀ v ∈ l, kills v w = false := by
  constructor
  · intro h v hv
    obtain ⟨j, hj⟩ := List.getElem?_of_mem hv
    exact h (j + 1) v w (by omega) (by simpa using hj) rfl
  · intro h j v e h1 h2 h3
    obtain ⟨j', rfl⟩ : ∃ j', j = j' + 1 := ⟨j - 1, by omega⟩
    simp at h2 h3
    subst h3
    exact h v (List.mem_of_getElem? h2)

/-- The deletes of a column. -/
structure DelOk (l : List Ent) (c : Col) (k : CW) : Prop where
  has : k.d = true → ∃ e ∈ l, e.wcol = c ∧ e.kind = 2 ∧ e.ts = k.u
  all : ∀ e ∈ l, e.wcol = c → e.kind = 2 → k.d = true ∧ e.ts ≤ k.u
  zero : k.d = false → k.u = 0
theorem delOk : ∀ (l : List Ent), (∀ e ∈ l, 0 ≤ e.ts) → ∀ c, DelOk l c ((colsOf l c).getD cw0)
  | [], _, c => ⟨fun h => by simp [colsOf, cw0] at h, fun e h => by simp at h, fun _ => rfl⟩
  | w :: l, hp, c => by
    have ih := delOk l (fun e he => hp e (List.mem_cons_of_mem _ he)) c
    have hw := hp w (by simp)
    by_cases hc : c = w.wcol
    · have e1 : (colsOf (w :: l) c).getD cw0 = cwAdd ((colsOf l c).getD cw0) w := by simp [colsOf, hc]
      rw [e1]
      generalize (colsOf l c).getD cw0 = k at *
      unfold cwAdd
      by_cases hk : w.kind = 2
      · rw [if_pos hk]
        refine ⟨fun _ => ?_, fun e he h1 h2 => ?_, fun h => by simp at h⟩
        · by_cases hm : k.u ≤ w.ts
          · exact ⟨w, by simp, hc.symm, hk, by simp [Int.max_eq_right hm]⟩
          · cases hd : k.d with
            | false => have := ih.zero hd; omega
            | true =>
              obtain ⟨e, h1, h2, h3, h4⟩ := ih.has hd
              exact ⟨e, List.mem_cons_of_mem _ h1, h2, h3, by rw [h4]; simp; omega⟩
        · refine ⟨rfl, ?_⟩
          rcases List.mem_cons.1 he with rfl | he
          · simp; omega
          · have := (ih.all e he h1 h2).2
            simp; omega
      · rw [if_neg hk]
        by_cases hd : k.d = true ∧ w.ts ≤ k.u
        · rw [if_pos hd]
          refine ⟨fun h => ?_, fun e he h1 h2 => ?_, ih.zero⟩
          · obtain ⟨e, h1, h2⟩ := ih.has h
            exact ⟨e, List.mem_cons_of_mem _ h1, h2⟩
          · rcases List.mem_cons.1 he with rfl | he
            · exact absurd h2 hk
            · exact ih.all e he h1 h2
        · rw [if_neg hd]
          refine ⟨fun h => ?_, fun e he h1 h2 => ?_, ih.zero⟩
          · obtain ⟨e, h1, h2⟩ := ih.has h
            exact ⟨e, List.mem_cons_of_mem _ h1, h2⟩
          · rcases List.mem_cons.1 he with rfl | he
            · exact absurd h2 hk
            · exact ih.all e he h1 h2
    · have e1 : (colsOf (w :: l) c).getD cw0 = (colsOf l c).getD cw0 := by simp [colsOf, hc]
      rw [e1]
      refine ⟨fun h => ?_, fun e he h1 h2 => ?_, ih.zero⟩
      · obtain ⟨e, h1, h2⟩ := ih.has h
        exact ⟨e, List.mem_cons_of_mem _ h1, h2⟩
      · rcases List.mem_cons.1 he with rfl | he
        · exact absurd h1.symm hc
        · exact ih.all e he h1 h2

/-- A write that no delete of its column covers leaves something at its key. -/
theorem some_left : ∀ (l : List Ent), (∀ e ∈ l, 0 ≤ e.ts) → ∀ c t, (∃ v ∈ l, v.wcol = c ∧ ¬ v.kind = 2 ∧ v.ts = t) → ¬ (((colsOf l c).getD cw0).d = true ∧ t ≤ ((colsOf l c).getD cw0).u) → (((colsOf l c).getD cw0).f t).isSome = true
  | [], _, c, t, ⟨v, hv, _⟩, _ => by simp at hv
  | w :: l, hp, c, t, ⟨v, hv, h1, h2, h3⟩, hn => by
    have ih := some_left l (fun e he => hp e (List.mem_cons_of_mem _ he)) c t
    by_cases hc : c = w.wcol
    · have e1 : (colsOf (w :: l) c).getD cw0 = cwAdd ((colsOf l c).getD cw0) w := by simp [colsOf, hc]
      rw [e1] at hn ⊢
      generalize (colsOf l c).getD cw0 = k at *
      unfold cwAdd at *
      by_cases hk : w.kind = 2
      · rw [if_pos hk] at hn ⊢
        refine ih ⟨v, ?_, h1, h2, h3⟩ (fun q => hn ⟨rfl, ?_⟩)
        · rcases List.mem_cons.1 hv with rfl | hv
          · exact absurd hk h2
          · exact hv
        · have := q.2
          simp; omega
      · rw [if_neg hk] at hn ⊢
        by_cases hd : k.d = true ∧ w.ts ≤ k.u
        · rw [if_pos hd] at hn ⊢
          refine ih ⟨v, ?_, h1, h2, h3⟩ hn
          rcases List.mem_cons.1 hv with rfl | hv
          · exact absurd ⟨hd.1, by rw [← h3]; exact hd.2⟩ hn
          · exact hv
        · rw [if_neg hd] at hn ⊢
          simp only
          by_cases ht : t = w.ts
          · rw [if_pos ht]
            cases hq : (k.f t).isSome <;> simp [hq]
          · rw [if_neg ht]
            refine ih ⟨v, ?_, h1, h2, h3⟩ hn
            rcases List.mem_cons.1 hv with rfl | hv
            · exact absurd h3.symm ht
            · exact hv
    · have e1 : (colsOf (w :: l) c).getD cw0 = (colsOf l c).getD cw0 := by simp [colsOf, hc]
      rw [e1] at hn ⊢
      refine ih ⟨v, ?_, h1, h2, h3⟩ hn
      rcases List.mem_cons.1 hv with rfl | hv
      · exact absurd h1.symm hc
      · exact hv

theorem left_iff : ∀ (l : List Ent), (∀ e ∈ l, 0 ≤ e.ts) → ∀ c t x, ((colsOf l c).getD cw0).f t = some x ↔ (x.wcol = c ∧ x.ts = t ∧ ¬ x.kind = 2 ∧ ∃ i, l[i]? = some x ∧ Stands l i)
  | [], _, c, t, x => by simp [colsOf, cw0]
  | w :: l, hp, c, t, x => by
    have hp' : ∀ e ∈ l, 0 ≤ e.ts := fun e he => hp e (List.mem_cons_of_mem _ he)
    have ih := left_iff l hp' c
    have hdel := delOk l hp' c
    have hsl := some_left l hp' c
    -- what stands at place 0, and behind it
    have hsplit : ∀ x : Ent, (∃ i, (w :: l)[i]? = some x ∧ Stands (w :: l) i) ↔ ((x = w ∧ ∀ v ∈ l, kills v w = false) ∨ ∃ i, l[i]? = some x ∧ Stands l i) := by
      intro x
      constructor
      · rintro ⟨i, h1, h2⟩
        cases i with
        | zero => simp at h1; exact .inl ⟨h1.symm, (stands_zero w l).1 h2⟩
        | succ i => exact .inr ⟨i, by simpa using h1, (stands_succ w l i).1 h2⟩
      · rintro (⟨rfl, h⟩ | ⟨i, h1, h2⟩)
        · exact ⟨0, rfl, (stands_zero x l).2 h⟩
        · exact ⟨i + 1, by simpa using h1, (stands_succ w l i).2 h2⟩
    rw [hsplit]
    by_cases hc : c = w.wcol
    · have e1 : (colsOf (w :: l) c).getD cw0 = cwAdd ((colsOf l c).getD cw0) w := by simp [colsOf, hc]
      rw [e1]
      generalize (colsOf l c).getD cw0 = k at *
      unfold cwAdd
      by_cases hk : w.kind = 2
      · rw [if_pos hk]
        simp only
        rw [ih]
        constructor
        · rintro ⟨h1, h2, h3, h4⟩; exact ⟨h1, h2, h3, .inr h4⟩
        · rintro ⟨h1, h2, h3, h4 | h4⟩
          · rw [h4.1] at h3; exact absurd hk h3
          · exact ⟨h1, h2, h3, h4⟩
      · rw [if_neg hk]
        by_cases hd : k.d = true ∧ w.ts ≤ k.u
        · rw [if_pos hd, ih]
          constructor
          · rintro ⟨h1, h2, h3, h4⟩; exact ⟨h1, h2, h3, .inr h4⟩
          · rintro ⟨h1, h2, h3, h4 | h4⟩
            · exfalso
              obtain ⟨e, g1, g2, g3, g4⟩ := hdel.has hd.1
              have := h4.2 e g1
              rw [kills_mk (g2.trans hc) (.inl ⟨g3, by rw [g4]; exact hd.2⟩)] at this
              cases this
            · exact ⟨h1, h2, h3, h4⟩
        · rw [if_neg hd]
          simp only
          by_cases ht : t = w.ts
          · rw [if_pos ht]
            cases hq : k.f t with
            | some y =>
              simp only [Option.isSome_some, if_true]
              have hy := (ih t y).1 hq
              constructor
              · intro h
                injection h with h
                subst h
                exact ⟨hy.1, hy.2.1, hy.2.2.1, .inr hy.2.2.2⟩
              · rintro ⟨h1, h2, h3, h4 | h4⟩
                · exfalso
                  obtain ⟨i, g1, g2⟩ := hy.2.2.2
                  have := h4.2 y (List.mem_of_getElem? g1)
                  rw [kills_mk (hy.1.trans hc) (.inr ⟨hy.2.2.1, hy.2.1.trans ht⟩)] at this
                  cases this
                · rw [← hq]; exact (ih t x).2 ⟨h1, h2, h3, h4⟩
            | none =>
              simp only [Option.isSome_none, Bool.false_eq_true, if_false]
              constructor
              · intro h
                injection h with h
                subst h
                refine ⟨hc.symm, ht.symm, hk, .inl ⟨rfl, fun v hv => ?_⟩⟩
                cases hkl : kills v w with
                | false => rfl
                | true =>
                  exfalso
                  obtain ⟨g1, g2⟩ := kills_of hkl
                  rcases g2 with ⟨g2, g3⟩ | ⟨g2, g3⟩
                  · have := hdel.all v hv (g1.trans hc.symm) g2
                    exact hd ⟨this.1, by omega⟩
                  · have := hsl t ⟨v, hv, g1.trans hc.symm, g2, g3.trans ht.symm⟩ (fun q => hd ⟨q.1, by rw [← ht]; exact q.2⟩)
                    rw [hq] at this
                    cases this
              · rintro ⟨h1, h2, h3, h4 | h4⟩
                · rw [h4.1]
                · have := (ih t x).2 ⟨h1, h2, h3, h4⟩
                  rw [hq] at this
                  cases this
          · rw [if_neg ht, ih]
            constructor
            · rintro ⟨h1, h2, h3, h4⟩; exact ⟨h1, h2, h3, .inr h4⟩
            · rintro ⟨h1, h2, h3, h4 | h4⟩
              · rw [h4.1] at h2; exact absurd h2.symm ht
              · exact ⟨h1, h2, h3, h4⟩
    · have e1 : (colsOf (w :: l) c).getD cw0 = (colsOf l c).getD cw0 := by simp [colsOf, hc]
      rw [e1, ih]
      constructor
      · rintro ⟨h1, h2, h3, h4⟩; exact ⟨h1, h2, h3, .inr h4⟩
      · rintro ⟨h1, h2, h3, h4 | h4⟩
        · rw [h4.1] at h1; exact absurd h1.symm hc
        · exact ⟨h1, h2, h3, h4⟩

theorem colsOf_mem : ∀ (l : List Ent) (c : Col), (∃ k, colsOf l c = some k) ↔ ∃ e ∈ l, e.wcol = c
  | [], c => by simp [colsOf]
  | w :: l, c => by
    by_cases hc : c = w.wcol
    · simp [colsOf, hc]
    · have := colsOf_mem l c
      simp only [colsOf, hc, if_false]
      rw [this]
      constructor
      · rintro ⟨e, h1, h2⟩; exact ⟨e, List.mem_cons_of_mem _ h1, h2⟩
      · rintro ⟨e, h1, h2⟩
        rcases List.mem_cons.1 h1 with rfl | h1
        · exact absurd h2.symm hc
        · exact ⟨e, h1, h2⟩
end Go.Proofs.Ytnncedndlhfdkac

