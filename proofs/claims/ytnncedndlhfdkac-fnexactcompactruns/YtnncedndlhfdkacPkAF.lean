import Derived.Deep.LoopGhost
import Derived.Deep.RegionHeld3
import Derived.Deep.DeepCutAuto
import Derived.Deep.RegionWith
import Derived.Test.YtnncedndlhfdkacPkAE
import Derived.Test.YtnncedndlhfdkacPkAD
import Derived.Test.YtnncedndlhfdkacPkAA
import Derived.Test.YtnncedndlhfdkacPkAC
import Derived.Test.YtnncedndlhfdkacPkAB
/-
  impl.MergeRuns, walked.
-/
namespace Go.Proofs.Ytnncedndlhfdkac
open Go.ChangeShapes Go.WideShapes Go.ChangeAt Go.RowKit Go.Deep
set_option linter.unusedVariables false
set_option linter.unusedSimpArgs false
set_option maxRecDepth 100000

theorem mg_new (w : World) (cg : Nat) (base : Nat) (hb : base ≤ w.heap.size) (hc : OwnC w base cg 0 []) (hn : cg < w.heap.size) :
    MgAt (w.alloc (Obj.cells #[.string ⟨#[]⟩, .string ⟨#[]⟩, .string ⟨#[]⟩, .slice none 0 0, .bool false, .int .u64 0, .slice (some ⟨cg, 0, none⟩) 0 0] 76)) base w.heap.size (⟨#[]⟩, ⟨#[]⟩, ⟨#[]⟩) (.slice none 0 0) [] false 0 cg 0 [] where
  own := World.ownsRow_lit (base := base) (e := 76) (size := 7) w #[.string ⟨#[]⟩, .string ⟨#[]⟩, .string ⟨#[]⟩, .slice none 0 0, .bool false, .int .u64 0, .slice (some ⟨cg, 0, none⟩) 0 0] 1 hb (by decide) rfl
  dels := ⟨rfl, .inl ⟨rfl, rfl⟩⟩
  cells := hc.below ((Below.refl _ _).alloc (Nat.le_refl _) _) hn

theorem OwnH.mono {w : World} {base base' g cap : Nat} {d : Array Cu} (h : OwnH w base g cap d) (hb : base' ≤ base) : OwnH w base' g cap d := by
  refine ⟨h.1, ?_⟩
  rcases h.2 with hn | ⟨g', cap', cur, hv, h1, rest⟩
  · exact .inl hn
  · exact .inr ⟨g', cap', cur, hv, Nat.le_trans hb h1, rest⟩
/-- What stands when the heap is opened. -/
theorem ginv_start {l : List Rm} {lo hi : ByteArray} {hh : Bool} {W w3 w4 : World} {b off g cp mb cg : Nat} {d : Array Cu} (hR : RmsAt W b off l) (hG : GoodRs (esM l)) (k3 : Below W.heap.size W w3) (hM : MgAt w3 W.heap.size mb (⟨#[]⟩, ⟨#[]⟩, ⟨#[]⟩) (.slice none 0 0) [] false 0 cg 0 [])
    (hrow : RowOk w4 w3.heap.size g cp d) (hh' : Heap d) (ho : OpenTo l lo hh hi l.length d.toList) (hb4 : Below w3.heap.size w3 w4) :
    ∃ (A : Nat → Ent → Prop) (N : Nat) (S : Nat → Prop), GInv A N S w4.heap.size g cp mb W (w4.alloc (Obj.cells #[.slice (some ⟨g, 0, none⟩) d.size cp] 78)) [] d (⟨#[]⟩, ⟨#[]⟩, ⟨#[]⟩) ∧ (∀ P L, Flow A N P [] → Shown P L → Mrg (esM l) (inR lo hh hi) L) := by
  have hbA : Below w4.heap.size w4 (w4.alloc (Obj.cells #[.slice (some ⟨g, 0, none⟩) d.size cp] 78)) := (Below.refl _ _).alloc (Nat.le_refl _) _
  have hzA : (w4.alloc (Obj.cells #[.slice (some ⟨g, 0, none⟩) d.size cp] 78)).heap.size = w4.heap.size + 1 := by simp
  have s3 := k3.size
  have s4 := hb4.size
  have hgl := hrow.row.lt
  have hfree : ∀ j, (w4.alloc (Obj.cells #[.slice (some ⟨g, 0, none⟩) d.size cp] 78)).frozen? ⟨w4.heap.size, j, none⟩ = false := fun j =>
    World.ownsRow.frozenAt (World.ownsRow_lit (base := 0) (e := 78) (size := 1) w4 #[.slice (some ⟨g, 0, none⟩) d.size cp] 1 (Nat.zero_le _) (by decide) rfl) j
  have hmine : ∀ k, Mine mb (.slice none 0 0) cg k → k < w3.heap.size := fun k q => (hM.low k q).2
  refine ⟨_, _, fun k => k = g ∨ k = w4.heap.size ∨ ∃ c ∈ d, k = c.blk, ⟨⟨?_, hh', flow_open ho, ho.blks, .inl rfl, .inr (.inl rfl), fun c hc => .inr (.inr ⟨c, hc, rfl⟩), ?_⟩, ⟨.slice none 0 0, [], false, 0, cg, 0, [], ?_⟩, last_nil _, ?_, ?_, ?_, ?_⟩, ?_⟩
  · exact {
      hdr := by simp
      free := hfree
      lt := by omega
      ne := by omega
      row := OwnH.mono (hrow.row.below hbA hgl.2) s3
      own := by omega
      cur := fun c hc => (hrow.cur c hc).below hbA
      low := fun c hc => by
        obtain ⟨r, hr, q⟩ := ho.src c (by simpa using hc)
        obtain ⟨i, hi⟩ := List.getElem?_of_mem hr
        have := (hR i r hi).2.lt
        omega
      high := fun c hc => by
        have h1 := hrow.high c hc
        have h2 := (hrow.cur c hc).lt
        exact ⟨by omega, h1.2, by omega⟩ }
  · have h1 := ho.few
    have h2 := hG.1
    simp at h1 h2
    omega
  · refine ⟨(hM.below hb4).below hbA, mem_nil _ _, shown_nil, ?_, by simp⟩
    intro k q
    have h1 := hmine k q
    rintro (q | q | ⟨c, hc, q⟩)
    · omega
    · omega
    · have h2 := (hrow.high c hc).1
      omega
  · exact (k3.trans (hb4.mono s3)).trans (hbA.mono (by omega))
  · rintro k (q | q | ⟨c, hc, q⟩)
    · omega
    · omega
    · have h2 := (hrow.cur c hc).lt
      omega
  · rintro k (q | q | ⟨c, hc, q⟩)
    · omega
    · omega
    · have h2 := (hrow.high c hc).1
      omega
  · have h1 := ho.sum
    have h2 := hG.1
    simp at h2
    omega
  · intro P L hF hS
    exact shown_all hS hF.done

set_option maxHeartbeats 8000000 in
theorem implMerge_core (b off cap : Nat) (l : List Rm) (lo hi : ByteArray) (hh : Bool) (w : World) (hR : RmsAt w b off l) (hok : okM l) (hB : b < w.heap.size) (hlen : l.length ≤ 1048576) :
    Calls Try.prog 12 #[.slice (some ⟨b, off, none⟩) l.length cap, .agg #[.string lo, .bool hh, .string hi]] w fun r w' =>
      ∃ (g cp : Nat) (L : List Ent), r = .returned (.slice (some ⟨g, 0, none⟩) L.length cp) ∧ OwnC w' w.heap.size g cp L ∧ Below w.heap.size w w' ∧ MrgOf (esM l) (inR lo hh hi) L := by
  have HR : Hid (RmsAt w b off l) := hR
  have HO : Hid (okM l) := hok
  clear hR hok
  obtain ⟨Wa, hWa⟩ : ∃ Wa : World, Wa = w.alloc (Obj.cells #[.string lo, .bool hh, .string hi] 31) := ⟨_, rfl⟩
  have hba : Below w.heap.size w Wa := by rw [hWa]; exact (Below.refl _ _).alloc (Nat.le_refl _) _
  have hza : Wa.heap.size = w.heap.size + 1 := by rw [hWa]; simp
  have HGa : Hid (Wa.cell? ⟨w.heap.size, 0, none⟩ = some (.string lo) ∧ Wa.cell? ⟨w.heap.size, 1, none⟩ = some (.bool hh) ∧ Wa.cell? ⟨w.heap.size, 2, none⟩ = some (.string hi)) := by
    refine ⟨?_, ?_, ?_⟩ <;> (rw [hWa]; simp)
  have HRa : Hid (RmsAt Wa b off l) := HR.out.below hba hB
  go_enter Try.func12, Try.ntmps12
  go_wp2_with fail
  rw [← hWa]
  clear hWa
  refine (validStack_core b off cap l _ HRa.out HO.out (by omega) hlen).mono ?_
  rintro e w1 ⟨r, rfl, hr, hb1⟩
  have HG : Hid (r = true ↔ GoodRs (esM l)) := hr
  clear hr
  have hs1 := hb1.size
  have k1 : Below w.heap.size w w1 := hba.trans (hb1.mono (by omega))
  cases r
  · have HN : Hid (¬ GoodRs (esM l)) := fun h => Bool.noConfusion (HG.out.2 h)
    have HC : Hid (OwnC (w1.alloc (Obj.cells #[] 69)) w.heap.size w1.heap.size 0 []) := (ownC_new w1).mono (by omega)
    go_wp2_with fail
    go_ret
    exact ⟨_, 0, [], rfl, HC.out, k1.alloc (by omega) _, fun h => absurd h HN.out, fun _ => rfl⟩
  have HGd : Hid (GoodRs (esM l)) := HG.out.1 rfl
  clear HG
  obtain ⟨W2, hW2⟩ : ∃ W2 : World, W2 = w1.alloc (Obj.cells #[] 69) := ⟨_, rfl⟩
  have hb2 : Below w1.heap.size w1 W2 := by rw [hW2]; exact (Below.refl _ _).alloc (Nat.le_refl _) _
  have hz2 : W2.heap.size = w1.heap.size + 1 := by rw [hW2]; simp
  have HC2 : Hid (OwnC W2 w.heap.size w1.heap.size 0 []) := by show OwnC W2 w.heap.size w1.heap.size 0 []; rw [hW2]; exact (ownC_new w1).mono (by omega)
  obtain ⟨W3, hW3⟩ : ∃ W3 : World, W3 = W2.alloc (Obj.cells #[.string ⟨#[]⟩, .string ⟨#[]⟩, .string ⟨#[]⟩, .slice none 0 0, .bool false, .int .u64 0, .slice (some ⟨w1.heap.size, 0, none⟩) 0 0] 76) := ⟨_, rfl⟩
  have hb3 : Below W2.heap.size W2 W3 := by rw [hW3]; exact (Below.refl _ _).alloc (Nat.le_refl _) _
  have hz3 : W3.heap.size = W2.heap.size + 1 := by rw [hW3]; simp
  have HM3 : Hid (MgAt W3 w.heap.size (w1.heap.size + 1) (⟨#[]⟩, ⟨#[]⟩, ⟨#[]⟩) (.slice none 0 0) [] false 0 w1.heap.size 0 []) := by
    show MgAt W3 _ _ _ _ _ _ _ _ _ _
    rw [hW3, ← hz2]; exact mg_new W2 w1.heap.size w.heap.size (by omega) HC2.out (by omega)
  have k13 : Below w1.heap.size w1 W3 := hb2.trans (hb3.mono (by omega))
  have k3 : Below w.heap.size w W3 := k1.trans (k13.mono (by omega))
  have HR3 : Hid (RmsAt W3 b off l) := HR.out.below k3 hB
  have HG3 : Hid (W3.cell? ⟨w.heap.size, 0, none⟩ = some (.string lo) ∧ W3.cell? ⟨w.heap.size, 1, none⟩ = some (.bool hh) ∧ W3.cell? ⟨w.heap.size, 2, none⟩ = some (.string hi)) := by
    have hy : Below Wa.heap.size Wa W3 := hb1.trans (k13.mono (by omega))
    refine ⟨?_, ?_, ?_⟩
    · rw [hy.cell (p := ⟨w.heap.size, 0, none⟩) (by show w.heap.size < Wa.heap.size; omega)]; exact HGa.out.1
    · rw [hy.cell (p := ⟨w.heap.size, 1, none⟩) (by show w.heap.size < Wa.heap.size; omega)]; exact HGa.out.2.1
    · rw [hy.cell (p := ⟨w.heap.size, 2, none⟩) (by show w.heap.size < Wa.heap.size; omega)]; exact HGa.out.2.2
  have s3 := k3.size
  go_upto_region 4 with fail
  rw [← hW2, ← hW3]
  clear hW2 hW3
  generalize w1.heap.size + 1 = mb at *
  obtain ⟨q0, q1, q2⟩ := HG3.out
  go_wp2_with fail
  refine (openCursors_core b off cap l lo hi hh _ HR3.out HGd.out (by omega)).mono ?_
  rintro e w4 ⟨g, cp, d0, rfl, hrow, hhp, hop, hb4⟩
  obtain ⟨A, N, S, hI0, hfin⟩ := ginv_start HR.out HGd.out k3 HM3.out hrow hhp hop hb4
  have HI0 : Hid (GInv A N S w4.heap.size g cp mb w (w4.alloc (Obj.cells #[.slice (some ⟨g, 0, none⟩) d0.size cp] 78)) [] d0 (⟨#[]⟩, ⟨#[]⟩, ⟨#[]⟩)) := hI0
  have HFin : Hid (∀ P L, Flow A N P [] → Shown P L → Mrg (esM l) (inR lo hh hi) L) := hfin
  clear hrow hhp hop hI0 hfin q0 q1 q2
  obtain ⟨W5, hW5⟩ : ∃ W5 : World, W5 = w4.alloc (Obj.cells #[.slice (some ⟨g, 0, none⟩) d0.size cp] 78) := ⟨_, rfl⟩
  rw [← hW5] at HI0
  go_wp2_with fail
  rw [← hW5]
  clear hW5
  generalize w4.heap.size = hp at *
  go_loopg [] (N + 1) (fun kx wr => ∃ (P : List (Nat × Ent)) (d : Array Cu) (c : ByteArray × ByteArray × ByteArray), N - P.length ≤ kx ∧ GInv A N S hp g cp mb w wr P d c)
  case atStart => exact ⟨[], d0, _, by simp, HI0.out⟩
  case round =>
    obtain ⟨P, d, co, hkx, hI⟩ := hrel
    have HI : Hid (GInv A N S hp g cp mb w wr P d co) := hI
    clear hI HI0
    have c0 := HI.out.heap.mem.hdr
    by_cases hd : d.size = 0
    · have hdn : d = #[] := Array.eq_empty_of_size_eq_zero hd
      obtain ⟨dv, ds, dec, ts, cg, cc, L, hR'⟩ := HI.out.mst
      have c6 := hR'.at_.cell.2.2.2.2.2.2.1
      have HF : Hid (OwnC wr w.heap.size cg cc L ∧ Below w.heap.size w wr ∧ MrgOf (esM l) (inR lo hh hi) L) := by
        refine ⟨hR'.at_.cells, HI.out.below, fun _ => HFin.out P L ?_ hR'.shown, fun h => absurd HGd.out h⟩
        have := HI.out.heap.flow
        rw [hdn] at this
        exact this
      rw [hd] at c0
      clear hR' hdn hd
      go_wp2_with fail
      refine (len_core _ _ _ _).mono ?_
      rintro e wx ⟨rfl, rfl⟩
      go_wp2_with fail
      go_ret
      exact ⟨cg, cc, L, rfl, HF.out.1, HF.out.2.1, HF.out.2.2⟩
    · obtain ⟨c, t, rfl⟩ : ∃ c t, d = (⟨c :: t⟩ : Array Cu) := by
        obtain ⟨dl⟩ := d
        cases dl with
        | nil => exact absurd rfl hd
        | cons c t => exact ⟨c, t, rfl⟩
      have hc0 : wr.cell? ⟨hp, 0, none⟩ = some (.slice (some ⟨g, 0, none⟩) (t.length + 1) cp) := c0
      have hc1 : wr.cell? ⟨g, 0, none⟩ = some (ifc c) := HI.out.heap.mem.row.cell (i := 0) (by simp)
      have HC : Hid (CuAt wr c) := HI.out.heap.mem.cur c (by simp)
      have hPN : P.length + 1 ≤ N := by
        have := (flow_min HI.out.heap.heap (fun x hx => (HI.out.heap.mem.cur x (by simpa using hx)).here) HI.out.heap.flow).2.len
        simpa using this
      clear c0 hd
      go_wp2_with fail
      refine (len_core _ _ _ _).mono ?_
      rintro e wx ⟨rfl, rfl⟩
      have zt : (0 : Int) < ((t.length + 1 : Nat) : Int) := by omega
      have mE := meth_entry
      have mA := meth_age
      go_upto_region 6 with fail
      go_region_held3 (fun w' => w'.cell? ⟨hp, 0, none⟩ = some (.slice (some ⟨g, 0, none⟩) (t.length + 1) cp) ∧ w'.cell? ⟨g, 0, none⟩ = some (.iface 117 (.pointer (some ⟨c.blk, 0, none⟩)))) (go_keep)
        ((first
          | (go_at_call 149; refine (entry_core c _ (HC.out.below ((Below.refl _ _).drew))).mono ?_; rintro e' w6 ⟨rfl, hb6⟩; have hq6 : Below wx.heap.size wx w6 := ((Below.refl wx.heap.size wx).drew).trans hb6; have y0 := (HI.out.below' hq6).heap.mem.hdr; have y1 : w6.cell? ⟨g, 0, none⟩ = some (.iface 117 (.pointer (some ⟨c.blk, 0, none⟩))) := (HI.out.below' hq6).heap.mem.row.cell (i := 0) (by simp))
          | (go_at_call 148; refine (age_core c _ (HC.out.below hq6)).mono ?_; rintro e' w7 ⟨rfl, hb7⟩; have hq7 : Below wx.heap.size wx w7 := hq6.trans (hb7.mono hq6.size); have y2 := (HI.out.below' hq7).heap.mem.hdr; have y3 : w7.cell? ⟨g, 0, none⟩ = some (.iface 117 (.pointer (some ⟨c.blk, 0, none⟩))) := (HI.out.below' hq7).heap.mem.row.cell (i := 0) (by simp))
          | (go_at_call 43; refine (take_top (HI.out.below' hq7)).mono ?_; rintro e' w8 ⟨rfl, hH8, hM8, hB8, hS8⟩; have y4 := hH8.mem.hdr; have y5 : w8.cell? ⟨g, 0, none⟩ = some (.iface 117 (.pointer (some ⟨c.blk, 0, none⟩))) := hH8.mem.row.cell (i := 0) (by simp); have H8 : Hid (HeapOk A N S hp w.heap.size g cp w8 P ⟨c :: t⟩ ∧ MSt S w.heap.size mb (P ++ [(c.age, c.head)]) w8 c.head.col ∧ Below w.heap.size w w8 ∧ wx.heap.size ≤ w8.heap.size) := ⟨hH8, hM8, hB8, Nat.le_trans hq7.size hS8⟩; clear hH8 hM8 hB8 hS8)))
      go_wp2_with fail
      refine (step_top H8.out.1 H8.out.2.1 H8.out.2.2.1 (fun k q => by have := HI.out.inS k q; have := H8.out.2.2.2; omega) HI.out.lowS HI.out.short).mono ?_
      rintro e' w9 ⟨rfl, d', hN9⟩
      have H9 : Hid (GInv A N S hp g cp mb w w9 (P ++ [(c.age, c.head)]) d' c.head.col) := hN9
      clear hN9
      go_wp2_with fail
      go_roundg (N - (P.length + 1))
      case measure => omega
      case rel => exact ⟨P ++ [(c.age, c.head)], d', c.head.col, by simp, H9.out⟩
end Go.Proofs.Ytnncedndlhfdkac

/-
  spec.MergeRuns.
-/
namespace Go.Proofs.Ytnncedndlhfdkac
open Go.ChangeShapes Go.WideShapes Go.ChangeAt Go.RowKit Go.Deep
set_option linter.unusedVariables false
set_option linter.unusedSimpArgs false
set_option maxRecDepth 100000

theorem ord_long : ∀ (R ws : List Ent), Ord R → (∀ x ∈ R, x ∈ ws) → R.length ≤ ws.length
  | [], _, _, _ => by simp
  | a :: R, ws, h, hs => by
    have h' := List.pairwise_cons.1 h
    obtain ⟨l1, l2, rfl⟩ := List.append_of_mem (hs a (by simp))
    have := ord_long R (l1 ++ l2) h'.2 (fun x hx => by
      have h1 := hs x (List.mem_cons_of_mem _ hx)
      simp only [List.mem_append, List.mem_cons] at h1 ⊢
      rcases h1 with h1 | rfl | h1
      · exact .inl h1
      · have := h'.1 x hx
        rw [keyCmp_self] at this
        omega
      · exact .inr h1)
    simp at this ⊢
    omega
theorem flat_len : ∀ (rs : List (List Ent)), (∀ es ∈ rs, GoodR es) → rs.flatten.length ≤ 10000 * rs.length
  | [], _ => by simp
  | es :: rs, h => by
    have h1 := (h es (by simp)).1.1
    have h2 := flat_len rs (fun x hx => h x (List.mem_cons_of_mem _ hx))
    rw [List.flatten_cons, List.length_append, List.length_cons]
    omega
theorem mrgTo_short {rs : List (List Ent)} {inr : ByteArray → Bool} {i j : Nat} {L : List Ent} (hG : GoodRs rs) (h : MrgTo rs inr i j L) : L.length ≤ 500000 := by
  have h1 := ord_long L rs.flatten h.1 (mrgTo_len h)
  have h2 := flat_len rs hG.2
  have h3 := hG.1
  omega
theorem OwnC.ne_row {w : World} {base g cp base' g' cp' : Nat} {es fs : List Ent} (h : OwnC w base g cp es) (h' : OwnE w base' g' cp' fs) : g ≠ g' := by
  rcases h.2 with ⟨h0, _⟩ | ⟨g1, cap1, cur, hv, _, hc, _⟩
  · cases h0
  · rcases h'.2 with ⟨h0, _⟩ | ⟨g2, cap2, cur2, hv2, _, hc2, _⟩
    · cases h0
    · simp only [Value.slice.injEq, Option.some.injEq, Addr.mk.injEq, and_true, true_and] at hv hv2
      obtain ⟨rfl, rfl⟩ := hv
      obtain ⟨rfl, rfl⟩ := hv2
      intro q
      rw [q, hc2] at hc
      simp at hc
theorem inRange_is (lo hi row : ByteArray) (hh : Bool) {s : Bool} (hs : inR lo hh hi row = s) (w : World) :
    Calls Try.prog 35 #[.agg #[.string lo, .bool hh, .string hi], .string row] w fun e w' => e = .returned (.bool s) ∧ Below w.heap.size w w' := hs ▸ specInRange_core lo hi row hh w
theorem at_of {l : List Rm} {k j : Nat} {r : Rm} {e : Ent} (hr : l[k]? = some r) (he : r.es[j]? = some e) : At (esM l) k j e := ⟨r.es, by rw [List.getElem?_map, hr]; rfl, he⟩
set_option maxHeartbeats 16000000 in
theorem specMerge_core (b off cap : Nat) (l : List Rm) (lo hi : ByteArray) (hh : Bool) (w : World) (hR : RmsAt w b off l) (hok : okM l) (hB : b < w.heap.size) (hlen : l.length ≤ 1048576) :
    Calls Try.prog 9 #[.slice (some ⟨b, off, none⟩) l.length cap, .agg #[.string lo, .bool hh, .string hi]] w fun r w' =>
      ∃ (g cp : Nat) (L : List Ent), r = .returned (.slice (some ⟨g, 0, none⟩) L.length cp) ∧ OwnC w' w.heap.size g cp L ∧ Below w.heap.size w w' ∧ L.length ≤ 500000 ∧ MrgOf (esM l) (inR lo hh hi) L := by
  have HR : Hid (RmsAt w b off l) := hR
  have HO : Hid (okM l) := hok
  clear hR hok
  obtain ⟨Wa, hWa⟩ : ∃ Wa : World, Wa = w.alloc (Obj.cells #[.string lo, .bool hh, .string hi] 31) := ⟨_, rfl⟩
  have hba : Below w.heap.size w Wa := by rw [hWa]; exact (Below.refl _ _).alloc (Nat.le_refl _) _
  have hza : Wa.heap.size = w.heap.size + 1 := by rw [hWa]; simp
  have HGa : Hid (Wa.cell? ⟨w.heap.size, 0, none⟩ = some (.string lo) ∧ Wa.cell? ⟨w.heap.size, 1, none⟩ = some (.bool hh) ∧ Wa.cell? ⟨w.heap.size, 2, none⟩ = some (.string hi)) := by
    refine ⟨?_, ?_, ?_⟩ <;> (rw [hWa]; simp)
  obtain ⟨W0, hW0⟩ : ∃ W0 : World, W0 = Wa.alloc (Obj.cells #[] 69) := ⟨_, rfl⟩
  have hb0 : Below Wa.heap.size Wa W0 := by rw [hW0]; exact (Below.refl _ _).alloc (Nat.le_refl _) _
  have hz0 : W0.heap.size = w.heap.size + 1 + 1 := by rw [hW0]; simp [hza]
  have HC0 : Hid (OwnC W0 w.heap.size (w.heap.size + 1) 0 []) := by
    show OwnC W0 w.heap.size (w.heap.size + 1) 0 []
    rw [hW0, ← hza]; exact (ownC_new Wa).mono (by omega)
  have kb0 : Below w.heap.size w W0 := hba.trans (hb0.mono (by omega))
  have HR0 : Hid (RmsAt W0 b off l) := HR.out.below kb0 hB
  go_enter Try.func9, Try.ntmps9
  go_wp2_with fail
  rw [← hWa, ← hW0]
  clear hWa hW0
  refine (goodRuns_core b off cap l _ HR0.out HO.out (by omega) hlen).mono ?_
  rintro e w1 ⟨r, rfl, hr, hb1⟩
  have HG : Hid (r = true ↔ GoodRs (esM l)) := hr
  clear hr
  have hs1 := hb1.size
  have k1 : Below w.heap.size w w1 := kb0.trans (hb1.mono (by omega))
  have HC1 : Hid (OwnC w1 w.heap.size (w.heap.size + 1) 0 []) := HC0.out.below hb1 (by omega)
  cases r
  · have HN : Hid (¬ GoodRs (esM l)) := fun h => Bool.noConfusion (HG.out.2 h)
    go_wp2_with fail
    go_ret
    exact ⟨_, 0, [], rfl, HC1.out, k1, by simp, fun h => absurd h HN.out, fun _ => rfl⟩
  have HGd : Hid (GoodRs (esM l)) := HG.out.1 rfl
  clear HG
  obtain ⟨W1, hW1⟩ : ∃ W1 : World, W1 = w1.alloc (Obj.cells #[] 63) := ⟨_, rfl⟩
  have hbA : Below w1.heap.size w1 W1 := by rw [hW1]; exact (Below.refl _ _).alloc (Nat.le_refl _) _
  have hzA : w1.heap.size < W1.heap.size := by rw [hW1]; simp
  have HL1 : Hid (OwnE W1 w1.heap.size w1.heap.size 0 []) := by
    show OwnE W1 w1.heap.size w1.heap.size 0 []
    rw [hW1]
    exact World.ownsRow_made w1 #[] 0 (Nat.le_refl _) (Nat.zero_le _) (by simp)
  have HR1 : Hid (RmsAt W1 b off l) := (HR0.out.below hb1 (by omega)).below hbA (by omega)
  have HCA : Hid (OwnC W1 w.heap.size (w.heap.size + 1) 0 []) := HC1.out.below hbA (by omega)
  have HRg : Hid (∀ wx, Below W1.heap.size W1 wx → wx.cell? ⟨w.heap.size, 0, none⟩ = some (.string lo) ∧ wx.cell? ⟨w.heap.size, 1, none⟩ = some (.bool hh) ∧ wx.cell? ⟨w.heap.size, 2, none⟩ = some (.string hi)) := by
    intro wx hx
    have hy : Below Wa.heap.size Wa wx := ((hb0.trans (hb1.mono (by omega))).trans (hbA.mono (by omega))).trans (hx.mono (by omega))
    refine ⟨?_, ?_, ?_⟩
    · rw [hy.cell (p := ⟨w.heap.size, 0, none⟩) (by show w.heap.size < Wa.heap.size; omega)]; exact HGa.out.1
    · rw [hy.cell (p := ⟨w.heap.size, 1, none⟩) (by show w.heap.size < Wa.heap.size; omega)]; exact HGa.out.2.1
    · rw [hy.cell (p := ⟨w.heap.size, 2, none⟩) (by show w.heap.size < Wa.heap.size; omega)]; exact HGa.out.2.2
  go_wp2_with fail
  rw [← hW1]
  clear hW1
  go_loopw [6, 7] (fun o i wr => ∃ (k g cp : Nat) (L : List Ent), k ≤ l.length ∧ i = .int .i64 k ∧ o = .slice (some ⟨g, 0, none⟩) L.length cp ∧ OwnE wr w1.heap.size g cp L ∧ MrgTo (esM l) (inR lo hh hi) k 0 L ∧ Below W1.heap.size W1 wr) (fun _ i _ => l.length - (intOf i).toNat)
  case atStart => exact ⟨0, _, 0, [], Nat.zero_le _, rfl, rfl, HL1.out, mrgTo_zero _ _, Below.refl _ _⟩
  case round =>
    obtain ⟨k, g, cp, L, hk, rfl, rfl, hO, hK, hb⟩ := hrel
    obtain ⟨wo, rfl⟩ : ∃ wo : World, wo = wr := ⟨_, rfl⟩
    have HK : Hid (OwnE wo w1.heap.size g cp L ∧ MrgTo (esM l) (inR lo hh hi) k 0 L) := ⟨hO, hK⟩
    have hLl := mrgTo_short HGd.out hK
    have hs := hb.size
    have hg := hO.lt
    clear hO hK
    by_cases hlt : k < l.length
    · obtain ⟨r, hr⟩ : ∃ r, l[k]? = some r := ⟨_, List.getElem?_eq_getElem hlt⟩
      have HRr : Hid (l[k]? = some r ∧ GoodR r.es) := ⟨hr, goodRs_mem HGd.out (List.mem_of_getElem? hr)⟩
      have hrl : r.es.length ≤ 10000 := HRr.out.2.1.1
      clear hr
      have zk : (k : Int) < (l.length : Int) := by omega
      go_wp2_with fail
      go_loopw [6, 8] (fun o i wr => ∃ (j g cp : Nat) (L : List Ent), j ≤ r.es.length ∧ i = .int .i64 j ∧ o = .slice (some ⟨g, 0, none⟩) L.length cp ∧ OwnE wr w1.heap.size g cp L ∧ MrgTo (esM l) (inR lo hh hi) k j L ∧ Below W1.heap.size W1 wr) (fun _ i _ => r.es.length - (intOf i).toNat)
      case atStart => exact ⟨0, _, _, L, Nat.zero_le _, rfl, rfl, HK.out.1, HK.out.2, hb⟩
      case round =>
        clear HK hb hs hg hLl
        obtain ⟨j, g, cp, L, hj, rfl, rfl, hO, hK, hb⟩ := hrel
        obtain ⟨wi, rfl⟩ : ∃ wi : World, wi = wr := ⟨_, rfl⟩
        have HK : Hid (OwnE wi w1.heap.size g cp L ∧ MrgTo (esM l) (inR lo hh hi) k j L) := ⟨hO, hK⟩
        have hLl := mrgTo_short HGd.out hK
        have hs := hb.size
        have hg := hO.lt
        clear hO hK
        have c0 := ((HR1.out.below hb (by omega)) k r HRr.out.1).1
        by_cases hjl : j < r.es.length
        · obtain ⟨e, he⟩ : ∃ e, r.es[j]? = some e := ⟨_, List.getElem?_eq_getElem hjl⟩
          obtain ⟨c1, c2, c3, c4, c5, c6⟩ := ((HR1.out.below hb (by omega)) k r HRr.out.1).2.ents j e he
          have HAt : Hid (At (esM l) k j e) := at_of HRr.out.1 he
          clear he
          obtain ⟨W2, hW2⟩ : ∃ W2 : World, W2 = wi.alloc (Obj.cells #[.string e.row, .string e.fam, .string e.qual, .int .u64 e.ts, .int .i64 e.kind, .string e.val] 63) := ⟨_, rfl⟩
          have hbW : Below wi.heap.size wi W2 := by rw [hW2]; exact (Below.refl _ _).alloc (Nat.le_refl _) _
          have hzW : W2.heap.size = wi.heap.size + 1 := by rw [hW2]; simp
          have HX2 : Hid (EntsAt W2 wi.heap.size 0 [e]) := by show EntsAt W2 wi.heap.size 0 [e]; rw [hW2]; exact ent_box wi e
          have HL2 : Hid (OwnE W2 w1.heap.size g cp L) := HK.out.1.below hbW hg.2
          have hb2 : Below W1.heap.size W1 W2 := hb.trans (hbW.mono hs)
          have zj : (j : Int) < (r.es.length : Int) := by omega
          go_upto_region 12 with fail
          rw [← hW2]
          clear hW2 c0 c1 c2 c3 c4 c5 c6
          obtain ⟨d0, d1, d2, d3, d4, d5⟩ := HX2.out 0 e rfl
          simp only [Nat.zero_add, Nat.zero_mul] at d0 d1 d2 d3 d4 d5
          obtain ⟨q0, q1, q2⟩ := HRg.out W2 hb2
          cases k0 : (e.kind == 0)
          · have HN : Hid (MrgTo (esM l) (inR lo hh hi) k (j + 1) L) := mrgTo_skip HK.out.2 HAt.out (fun q => by have := q.1; simp at k0; exact k0 this)
            go_wp2_with fail
            go_roundw
            case rel => exact ⟨j + 1, g, cp, L, by omega, by go_num, rfl, HL2.out, HN.out, hb2⟩
            case measure => go_light; simp [intOf]; omega
          · go_wp2_with fail
            cases hir : inR lo hh hi e.row
            · have HN : Hid (MrgTo (esM l) (inR lo hh hi) k (j + 1) L) := mrgTo_skip HK.out.2 HAt.out (fun q => by have := q.2.1; rw [hir] at this; cases this)
              refine (inRange_is lo hi e.row hh hir _).mono ?_
              rintro e' w3 ⟨rfl, hb3⟩
              have hs3 := hb3.size
              have hb4 := hb2.trans (hb3.mono (by omega))
              have HL3 : Hid (OwnE w3 w1.heap.size g cp L) := HL2.out.below hb3 (by omega)
              clear d0 d1 d2 d3 d4 d5 q0 q1 q2
              go_wp2_with fail
              go_roundw
              case rel => exact ⟨j + 1, g, cp, L, by omega, by go_num, rfl, HL3.out, HN.out, hb4⟩
              case measure => go_light; simp [intOf]; omega
            · refine (inRange_is lo hi e.row hh hir _).mono ?_
              rintro e' w3 ⟨rfl, hb3⟩
              have hs3 := hb3.size
              have hb4 := hb2.trans (hb3.mono (by omega))
              have HL3 : Hid (OwnE w3 w1.heap.size g cp L) := HL2.out.below hb3 (by omega)
              have HX3 : Hid (EntsAt w3 wi.heap.size 0 [e]) := HX2.out.below hb3 (by omega)
              have HIR : Hid (e.kind = 0 ∧ inR lo hh hi e.row = true) := ⟨by simpa using k0, hir⟩
              clear d0 d1 d2 d3 d4 d5 q0 q1 q2
              go_wp2_with fail
              go_loopw [10, 11] (fun o i wr => ∃ (m : Nat) (hd : Bool), m ≤ k ∧ i = .int .i64 m ∧ o = .bool hd ∧ (hd = true ↔ HidTo (esM l) m e) ∧ Below w3.heap.size w3 wr) (fun _ i _ => k - (intOf i).toNat)
              case atStart => exact ⟨0, false, Nat.zero_le _, rfl, rfl, iffF (hidTo_zero _ _), Below.refl _ _⟩
              case round =>
                obtain ⟨m, hd, hm, rfl, rfl, hH, hbm⟩ := hrel
                have HH : Hid (hd = true ↔ HidTo (esM l) m e) := hH
                have hsm := hbm.size
                clear hH
                have hbm4 : Below W1.heap.size W1 wr := hb4.trans (hbm.mono (by omega))
                by_cases hmk : m < k
                · obtain ⟨r', hr'⟩ : ∃ r', l[m]? = some r' := ⟨_, List.getElem?_eq_getElem (by omega)⟩
                  have hg' := goodRs_mem HGd.out (List.mem_of_getElem? hr')
                  have hl' : r'.es.length ≤ 1048576 := by have := hg'.1.1; omega
                  obtain ⟨y0, y1⟩ := rms_out (HR1.out.below hbm4 (by omega)) (by omega) hr'
                  obtain ⟨x0, x1, x2, x3, x4, x5⟩ := ents_out (HX3.out.below hbm (by omega)) (by omega) (rfl : [e][0]? = some e)
                  simp only [Nat.zero_add, Nat.zero_mul] at x0 x1 x2 x3 x4 x5
                  have HY : Hid (∀ n : Out wr, r'.at n.u) := y1
                  have HS : Hid (HidTo (esM l) (m + 1) e ↔ HidTo (esM l) m e ∨ (saysF e r'.es 0).1 ≠ 0) := by
                    have h1 := hidTo_succ (rs := esM l) (k := m) (x := e) (ds := r'.es) (by rw [List.getElem?_map, hr']; rfl)
                    have h2 := saysF_kills e r'.es 0 hg'.1.2
                    show _ ↔ _
                    rw [h1, h2]; simp
                  clear y1 hr' hg'
                  have zm : (m : Int) < (l.length : Int) := by omega
                  have inh : Nonempty (Out wr) := ⟨⟨wr, Below.refl _ _⟩⟩
                  go_upto_region 17 with fail
                  refine wp_region_out (by kernel_rfl) (by kernel_rfl) ?_
                  repeat (go_big_quiet_step ((go_at_call 36; exact Calls.out_of (says_core r' e _ (HY.out _) hl'))))
                  refine wpQuiet_nil ?_
                  rintro wy ⟨⟨wx, hby⟩, rfl⟩
                  clear x0 x1 x2 x3 x4 x5 y0
                  have hby' := hbm.trans (hby.mono hsm)
                  generalize (saysF e r'.es 0).1 = sx at *
                  generalize (saysF e r'.es 0).2 = sv at *
                  cases hd
                  · cases hsx : (sx != 0)
                    · have HN : Hid (false = true ↔ HidTo (esM l) (m + 1) e) := iffF (fun q => by
                        rcases HS.out.1 q with q | q
                        · exact Bool.noConfusion (HH.out.2 q)
                        · simp at hsx; exact q hsx)
                      go_wp2_with fail
                      go_roundw
                      case rel => exact ⟨m + 1, false, by omega, by go_num, rfl, HN.out, hby'⟩
                      case measure => go_light; simp [intOf]; omega
                    · have HN : Hid (true = true ↔ HidTo (esM l) (m + 1) e) := iffT (HS.out.2 (.inr (by simpa using hsx)))
                      go_wp2_with fail
                      go_roundw
                      case rel => exact ⟨m + 1, true, by omega, by go_num, rfl, HN.out, hby'⟩
                      case measure => go_light; simp [intOf]; omega
                  · have HN : Hid (true = true ↔ HidTo (esM l) (m + 1) e) := iffT (HS.out.2 (.inl (HH.out.1 rfl)))
                    go_wp2_with fail
                    go_roundw
                    case rel => exact ⟨m + 1, true, by omega, by go_num, rfl, HN.out, hby'⟩
                    case measure => go_light; simp [intOf]; omega
                · obtain rfl : m = k := by omega
                  have HLm : Hid (OwnE wr w1.heap.size g cp L) := HL3.out.below hbm (by omega)
                  have HXm : Hid (EntsAt wr wi.heap.size 0 [e]) := HX3.out.below hbm (by omega)
                  have zmk : ¬ (m : Int) < (m : Int) := by omega
                  cases hd
                  · have HN : Hid (MrgTo (esM l) (inR lo hh hi) m (j + 1) (into L e)) := mrgTo_put HGd.out HK.out.2 HAt.out ⟨HIR.out.1, HIR.out.2, fun q => Bool.noConfusion (HH.out.2 q)⟩
                    obtain ⟨d0, d1, d2, d3, d4, d5⟩ := HXm.out 0 e rfl
                    simp only [Nat.zero_add, Nat.zero_mul] at d0 d1 d2 d3 d4 d5
                    go_wp2_with fail
                    refine (into_core g 0 cp L e _ HLm.out.at (by omega) (by omega)).mono ?_
                    rintro e' w5 ⟨g', cp', rfl, hO', hb5⟩
                    have HO' : Hid (OwnE w5 w1.heap.size g' cp' (into L e)) := hO'.mono (by omega)
                    have hb6 := hbm4.trans (hb5.mono (by omega))
                    clear hO' d0 d1 d2 d3 d4 d5
                    go_wp2_with fail
                    go_roundw
                    case rel => exact ⟨j + 1, g', cp', into L e, by omega, by go_num, rfl, HO'.out, HN.out, hb6⟩
                    case measure => go_light; simp [intOf]; omega
                  · have HN : Hid (MrgTo (esM l) (inR lo hh hi) m (j + 1) L) := mrgTo_skip HK.out.2 HAt.out (fun q => q.2.2 (HH.out.1 rfl))
                    go_wp2_with fail
                    go_roundw
                    case rel => exact ⟨j + 1, g, cp, L, by omega, by go_num, rfl, HLm.out, HN.out, hbm4⟩
                    case measure => go_light; simp [intOf]; omega
        · have HN : Hid (MrgTo (esM l) (inR lo hh hi) (k + 1) 0 L) := mrgTo_row HK.out.2 (es := r.es) (by rw [List.getElem?_map, HRr.out.1]; rfl) (by omega)
          have zj : ¬ (j : Int) < (r.es.length : Int) := by omega
          go_wp2_with fail
          go_roundw
          case rel => exact ⟨k + 1, g, cp, L, by omega, by go_num, rfl, HK.out.1, HN.out, hb⟩
          case measure => go_light; simp [intOf]; omega
    · have HKK : Hid (MrgOf (esM l) (inR lo hh hi) L) := by
        refine ⟨fun _ => mrg_of_to HK.out.2 (by simp; omega), fun h => absurd HGd.out h⟩
      have hbw : Below w.heap.size w wo := (k1.trans (hbA.mono (by omega))).trans (hb.mono (by omega))
      have HCo : Hid (OwnC wo w.heap.size (w.heap.size + 1) 0 []) := HCA.out.below hb (by omega)
      have zk : ¬ (k : Int) < (l.length : Int) := by omega
      go_wp2_with fail
      go_loopw [5, 14] (fun o i wr => ∃ (m g5 cp5 : Nat), m ≤ L.length ∧ i = .int .i64 m ∧ o = .slice (some ⟨g5, 0, none⟩) m cp5 ∧ OwnC wr w.heap.size g5 cp5 (L.take m) ∧ OwnE wr w1.heap.size g cp L ∧ Below w.heap.size w wr) (fun _ i _ => L.length - (intOf i).toNat)
      case atStart => exact ⟨0, _, 0, Nat.zero_le _, rfl, rfl, HCo.out, HK.out.1, hbw⟩
      case round =>
        obtain ⟨m, g5, cp5, hm, rfl, rfl, hC, hL, hbm⟩ := hrel
        have HM : Hid (OwnC wr w.heap.size g5 cp5 (L.take m) ∧ OwnE wr w1.heap.size g cp L) := ⟨hC, hL⟩
        have hg5 := hC.lt
        have hgl := hL.lt
        have hne := hC.ne_row hL
        have hsm := hbm.size
        have HTM : Hid (m = (L.take m).length) := by show m = (L.take m).length; rw [List.length_take]; omega
        clear hC hL
        by_cases hlt : m < L.length
        · obtain ⟨x, hx⟩ : ∃ x, L[m]? = some x := ⟨_, List.getElem?_eq_getElem hlt⟩
          have HX : Hid (L.take (m + 1) = L.take m ++ [x]) := by show L.take (m + 1) = L.take m ++ [x]; rw [List.take_add_one, hx]; rfl
          obtain ⟨c0, c1, c2, c3, c4, c5⟩ := HM.out.2.at m x hx
          simp only [Nat.zero_add, Nat.zero_mul] at c0 c1 c2 c3 c4 c5
          clear hx
          go_wp2_with fail
          refine (specCell_any x _).mono ?_
          rintro e' w3 ⟨rfl, hb3⟩
          have hs3 := hb3.size
          have HM3 : Hid (OwnC w3 w.heap.size g5 cp5 (L.take m) ∧ OwnE w3 w1.heap.size g cp L) := ⟨HM.out.1.below hb3 hg5.2, HM.out.2.below hb3 hgl.2⟩
          have hbm3 : Below w.heap.size w w3 := hbm.trans (hb3.mono (by omega))
          clear c0 c1 c2 c3 c4 c5 hb3
          go_wp2_with (at_builtin; refine wpList_append_cel _ rfl _ _ rfl w.heap.size g5 cp5 _ _ (L.take m) x rfl rfl HTM.out ?hO ?hc ?hl ?hb ?_)
          case hO => exact HM3.out.1.below ((Below.refl _ _).alloc (Nat.le_refl _) _) (by omega)
          case hc => exact cel_new w3 x
          case hl => rw [← HTM.out]; omega
          case hb => simp; omega
          intro g' cp' w' hO' hgr
          have HO' : Hid (OwnC w' w.heap.size g' cp' (L.take (m + 1))) := by show OwnC w' w.heap.size g' cp' (L.take (m + 1)); rw [HX.out]; exact hO'
          have hb' : Below w.heap.size w w' := (hbm3.alloc hbm3.size _).grown hgr (by simp; omega) (fun j hj => by cases hj; omega)
          have HL' : Hid (OwnE w' w1.heap.size g cp L) := World.ownsRow.kept (HM3.out.2.below ((Below.refl _ _).alloc (Nat.le_refl _) _) (by omega)) hgr (.inr (fun q => hne (Option.some.inj q).symm))
          clear hO' hgr
          go_wp2_with fail
          go_roundw
          case rel => exact ⟨m + 1, g', cp', by omega, by go_num, rfl, HO'.out, HL'.out, hb'⟩
          case measure => go_light; simp [intOf]; omega
        · have HT : Hid (L.take m = L) := List.take_of_length_le (by omega)
          go_wp2_with fail
          go_ret
          refine ⟨g5, cp5, L, ?_, ?_, hbm, hLl, HKK.out⟩
          · have e1 : m = L.length := by omega
            show Ending.returned (Value.slice (some ⟨g5, 0, none⟩) m cp5) = _
            rw [e1]
          · have h := HM.out.1
            rw [HT.out] at h
            exact h
end Go.Proofs.Ytnncedndlhfdkac

/-
  The marks, looked for.
-/
namespace Go.Proofs.Ytnncedndlhfdkac
open Go.ChangeShapes Go.WideShapes Go.ChangeAt Go.RowKit Go.Deep
set_option linter.unusedVariables false

theorem markText_in (W0 : World) (a : Int) (w : World) (hb : Below W0.heap.size W0 w) (h0 : 0 < a) (h1 : a ≤ 2 ^ 40) :
    Calls Try.prog 47 #[.int .i64 a] w fun e w' => e = .returned (.string (mText a.toNat)) ∧ Below W0.heap.size W0 w' := by
  refine (markText_any a w h0 h1).mono ?_
  rintro e w' ⟨he, hb'⟩
  exact ⟨he, hb.trans (hb'.mono hb.size)⟩

set_option maxHeartbeats 2000000 in
theorem heldEntryS_core (b off cap : Nat) (es : List Ent) (k : Int) (w : World) (hE : EntsAt w b off es) (hmk : marked k es es.length) (hB : b < w.heap.size) (h0 : 0 < k) (h1 : k ≤ 2 ^ 30) (hn : es.length ≤ 1048576) :
    Calls Try.prog 51 #[.slice (some ⟨b, off, none⟩) es.length cap, .int .i64 k] w fun e w' =>
      e = .returned (.int .i64 (k + es.length * 6)) ∧ Below w.heap.size w w' := by
  have HE : Hid (EntsAt w b off es ∧ marked k es es.length) := ⟨hE, hmk⟩
  clear hE hmk
  go_enter Try.func51, Try.ntmps51
  go_wp2
  go_loopw [1, 5] (fun c i wr => ∃ (m : Nat) (a : Int), m ≤ es.length ∧ i = .int .i64 m ∧ c = .int .i64 a ∧ a = k + m * 6 ∧ Below w.heap.size w wr) (fun _ i _ => es.length - (intOf i).toNat)
  case atStart => exact ⟨0, k, Nat.zero_le _, rfl, rfl, by simp, Below.refl _ _⟩
  case round =>
    obtain ⟨m, a, hm, rfl, rfl, ha, hb⟩ := hrel
    have ha0 : 0 < a := by omega
    have ha1 : a ≤ 2 ^ 31 := by omega
    have HA : Hid (a = k + m * 6) := ha
    clear ha
    have hs := hb.size
    by_cases hlt : m < es.length
    · have he : es[m]? = some (mEnt a) := by rw [HA.out]; exact HE.out.2 m hlt
      have HM : Hid (es[m]? = some (mEnt a)) := he
      clear he
      have z2 : (m : Int) < (es.length : Int) := by omega
      have hce : ∀ wx, Below w.heap.size w wx → wx.cell? ⟨b, off + m * 6, none⟩ = some (.string (mText a.toNat)) ∧ wx.cell? ⟨b, off + m * 6 + 1, none⟩ = some (.string (mText (a + 1).toNat)) ∧ wx.cell? ⟨b, off + m * 6 + 2, none⟩ = some (.string (mText (a + 1 + 1).toNat)) ∧
          wx.cell? ⟨b, off + m * 6 + 3, none⟩ = some (.int .u64 (a + 1 + 1 + 1)) ∧ wx.cell? ⟨b, off + m * 6 + 4, none⟩ = some (.int .i64 (a + 1 + 1 + 1 + 1)) ∧ wx.cell? ⟨b, off + m * 6 + 5, none⟩ = some (.string (mText (a + 1 + 1 + 1 + 1 + 1).toNat)) :=
        fun wx hx => (HE.out.1.below hx hB) m _ HM.out
      have HC : Hid (∀ wx, Below w.heap.size w wx → wx.cell? ⟨b, off + m * 6, none⟩ = some (.string (mText a.toNat)) ∧ wx.cell? ⟨b, off + m * 6 + 1, none⟩ = some (.string (mText (a + 1).toNat)) ∧ wx.cell? ⟨b, off + m * 6 + 2, none⟩ = some (.string (mText (a + 1 + 1).toNat)) ∧
          wx.cell? ⟨b, off + m * 6 + 3, none⟩ = some (.int .u64 (a + 1 + 1 + 1)) ∧ wx.cell? ⟨b, off + m * 6 + 4, none⟩ = some (.int .i64 (a + 1 + 1 + 1 + 1)) ∧ wx.cell? ⟨b, off + m * 6 + 5, none⟩ = some (.string (mText (a + 1 + 1 + 1 + 1 + 1).toNat))) := hce
      clear hce
      have c1 := (HC.out wr hb).1
      go_upto_region 4 with fail
      go_cut [19] (fun s wx => s = .bool false ∧ Below w.heap.size w wx)
      case first =>
        go_region_with (go_at_call 47; refine (markText_in w _ _ ?hB (by omega) (by omega)).mono ?_; (case hB => (repeat (first | assumption | refine Below.drew ?_))); rintro e' w' ⟨rfl, hbb⟩; have cx := (HC.out w' hbb).1)
        all_goals go_wp2_with fail
        all_goals go_meet
        all_goals exact ⟨rfl, by assumption⟩
      case rest =>
      obtain ⟨rfl, h2⟩ := hcut
      clear c1
      obtain ⟨wa, rfl⟩ : ∃ wa : World, wa = wc := ⟨_, rfl⟩
      have c2 := (HC.out wa h2).2.1
      go_upto_region 7 with fail
      go_cut [29] (fun s wx => s = .bool false ∧ Below w.heap.size w wx)
      case first =>
        go_region_with (go_at_call 47; refine (markText_in w _ _ ?hB (by omega) (by omega)).mono ?_; (case hB => (repeat (first | assumption | refine Below.drew ?_))); rintro e' w' ⟨rfl, hbb⟩; have cx := (HC.out w' hbb).2.1)
        all_goals go_wp2_with fail
        all_goals go_meet
        all_goals exact ⟨rfl, by assumption⟩
      case rest =>
      obtain ⟨rfl, h3⟩ := hcut
      clear c2
      obtain ⟨wb, rfl⟩ : ∃ wb : World, wb = wc := ⟨_, rfl⟩
      have c3 := (HC.out wb h3).2.2.1
      go_upto_region 10 with fail
      go_cut [39] (fun s wx => s = .bool false ∧ Below w.heap.size w wx)
      case first =>
        go_region_with (go_at_call 47; refine (markText_in w _ _ ?hB (by omega) (by omega)).mono ?_; (case hB => (repeat (first | assumption | refine Below.drew ?_))); rintro e' w' ⟨rfl, hbb⟩; have cx := (HC.out w' hbb).2.2.1)
        all_goals go_wp2_with fail
        all_goals go_meet
        all_goals exact ⟨rfl, by assumption⟩
      case rest =>
      obtain ⟨rfl, h4⟩ := hcut
      clear c3
      obtain ⟨wd, rfl⟩ : ∃ wd : World, wd = wc := ⟨_, rfl⟩
      have c4 := (HC.out wd h4).2.2.2.1
      have c5 := (HC.out wd h4).2.2.2.2.1
      have c6 := (HC.out wd h4).2.2.2.2.2
      go_upto_region 19 with fail
      go_cut [68] (fun s wx => s = .bool false ∧ Below w.heap.size w wx)
      case first =>
        go_region_with (go_at_call 47; refine (markText_in w _ _ ?hB (by omega) (by omega)).mono ?_; (case hB => (repeat (first | assumption | refine Below.drew ?_))); rintro e' w' ⟨rfl, hbb⟩; have cx := (HC.out w' hbb).2.2.2.2.2)
        all_goals go_wp2_with fail
        all_goals go_meet
        all_goals exact ⟨rfl, by assumption⟩
      case rest =>
      obtain ⟨rfl, h5⟩ := hcut
      clear c4 c5 c6
      go_wp2_with fail
      refine ⟨⟨m + 1, a + 1 + 1 + 1 + 1 + 1 + 1, by omega, by go_num, rfl, ?_, h5⟩, ?_⟩
      · go_light
        have := HA.out
        omega
      · go_light
        simp [intOf]; omega
    · go_wp2_with fail
      go_ret
      have e1 : m = es.length := by omega
      refine ⟨?_, hb⟩
      rw [HA.out, e1]; rfl
end Go.Proofs.Ytnncedndlhfdkac

/-
  The marks that a law lays into rows of cells and looks for.
-/
namespace Go.Proofs.Ytnncedndlhfdkac
open Go.ChangeShapes Go.WideShapes Go.ChangeAt Go.RowKit Go.Deep
set_option linter.unusedVariables false
set_option linter.unusedSimpArgs false

/-- The cell that the marks from 'k' on make. -/
def mCel (k : Int) : Ent := ⟨mText k.toNat, mText (k + 1).toNat, mText (k + 1 + 1).toNat, k + 1 + 1 + 1, 0, mText (k + 1 + 1 + 1 + 1).toNat⟩
def markedC (k : Int) (es : List Ent) (i : Nat) : Prop := ∀ j : Nat, j < i → (es[j]?.map Ent.five) = some (mCel (k + j * 5)).five
theorem markedC_set {k : Int} {fs : List Ent} {m : Nat} {e : Ent} (h : markedC k fs m) (hm : m < fs.length) (he : e.five = (mCel (k + m * 5)).five) : markedC k (fs.set m e) (m + 1) := by
  intro j hj
  by_cases e1 : j = m
  · subst e1; simp [hm]; simpa using he
  · rw [List.getElem?_set_ne (by omega)]; exact h j (by omega)

set_option maxHeartbeats 1000000 in
theorem markCellS_core (base g cap : Nat) (es : List Ent) (k : Int) (w : World) (hO : OwnC w base g cap es) (h0 : 0 < k) (h1 : k ≤ 2 ^ 30) (hn : es.length ≤ 1048576) :
    Calls Try.prog 16 #[.slice (some ⟨g, 0, none⟩) es.length cap, .int .i64 k] w fun e w' =>
      ∃ fs, e = .returned (.int .i64 (k + es.length * 5)) ∧ OwnC w' base g cap fs ∧ fs.length = es.length ∧ markedC k fs es.length ∧ w.grownBy w' (some g) := by
  have HO : Hid (OwnC w base g cap es) := hO
  clear hO
  go_enter Try.func16, Try.ntmps16
  go_wp2
  go_loopw [1, 5] (fun c i wr => ∃ (m : Nat) (a : Int) (fs : List Ent), m ≤ es.length ∧ i = .int .i64 m ∧ c = .int .i64 a ∧ a = k + m * 5 ∧ OwnC wr base g cap fs ∧ fs.length = es.length ∧ markedC k fs m ∧ w.grownBy wr (some g)) (fun _ i _ => es.length - (intOf i).toNat)
  case atStart => exact ⟨0, k, es, Nat.zero_le _, rfl, rfl, by simp, HO.out, rfl, fun j hj => by omega, grown_of_below (Below.refl _ _) _⟩
  case round =>
    obtain ⟨m, a, fs, hm, rfl, rfl, ha, hO, hfl, hmk, hgr⟩ := hrel
    have HR : Hid (a = k + m * 5 ∧ OwnC wr base g cap fs ∧ fs.length = es.length ∧ markedC k fs m) := ⟨ha, hO, hfl, hmk⟩
    have ha0 : 0 < a := by omega
    have ha1 : a ≤ 2 ^ 31 := by omega
    have HG : Hid (w.grownBy wr (some g)) := hgr
    clear hO hfl hmk ha hgr
    by_cases hlt : m < es.length
    · obtain ⟨f, hf⟩ : ∃ f, fs[m]? = some f := ⟨_, List.getElem?_eq_getElem (by rw [HR.out.2.2.1]; exact hlt)⟩
      have HF : Hid (fs[m]? = some f ∧ m < fs.length) := ⟨hf, by rw [HR.out.2.2.1]; exact hlt⟩
      clear hf
      go_wp2_with fail
      refine (markText_any a _ (by omega) (by omega)).mono ?_
      rintro e w1 ⟨rfl, hb1⟩
      have hO1 := HR.out.2.1.below hb1 HR.out.2.1.lt.2
      have c1 := (hO1.at m f HF.out.1).1
      simp only [Nat.zero_add] at c1
      have z1 := fun j => World.ownsRow.frozenAt hO1 j
      have hO1' := hO1.set m 0 f { f with row := mText a.toNat } (.string (mText a.toNat)) HF.out.1 (by omega) rfl
      have H1 : Hid (OwnC (w1.setCell ⟨g, m * 5, none⟩ (.string (mText a.toNat))) base g cap (fs.set m { f with row := mText a.toNat }) ∧ w.grownBy (w1.setCell ⟨g, m * 5, none⟩ (.string (mText a.toNat))) (some g)) := ⟨hO1', (HG.out.trans (grown_of_below hb1 _)).trans (grown_set _ _ _ _)⟩
      clear hO1 hO1' hb1
      go_wp2_with fail
      refine (markText_any (a + 1) _ (by omega) (by omega)).mono ?_
      rintro e w2 ⟨rfl, hb2⟩
      have hO2 := H1.out.1.below hb2 H1.out.1.lt.2
      have c2 := (hO2.at m _ (by simp [HF.out.2]; rfl)).2.1
      simp only [Nat.zero_add] at c2
      have z2 := fun j => World.ownsRow.frozenAt hO2 j
      have H2 : Hid (OwnC (w2.setCell ⟨g, m * 5 + 1, none⟩ (.string (mText (a + 1).toNat))) base g cap (fs.set m { f with row := mText a.toNat, fam := mText (a + 1).toNat }) ∧ w.grownBy (w2.setCell ⟨g, m * 5 + 1, none⟩ (.string (mText (a + 1).toNat))) (some g)) :=
        ⟨hO2.upd HF.out.2 (by omega) rfl, (H1.out.2.trans (grown_of_below hb2 _)).trans (grown_set _ _ _ _)⟩
      clear hO2 hb2 c1 z1
      go_wp2_with fail
      refine (markText_any (a + 1 + 1) _ (by omega) (by omega)).mono ?_
      rintro e w3 ⟨rfl, hb3⟩
      have hO3 := H2.out.1.below hb3 H2.out.1.lt.2
      obtain ⟨_, _, c3, c4, _⟩ := hO3.at m _ (by simp [HF.out.2]; rfl)
      simp only [Nat.zero_add] at c3 c4
      have z3 := fun j => World.ownsRow.frozenAt hO3 j
      have H3 : Hid (OwnC w3 base g cap (fs.set m { f with row := mText a.toNat, fam := mText (a + 1).toNat }) ∧ w.grownBy w3 (some g)) := ⟨hO3, H2.out.2.trans (grown_of_below hb3 _)⟩
      clear hO3 hb3 c2 z2
      go_wp2_with fail
      refine (markText_any (a + 1 + 1 + 1 + 1) _ (by omega) (by omega)).mono ?_
      rintro e w4 ⟨rfl, hb4⟩
      have hO3 := (H3.out.1.upd (j := 2) (u := .string (mText (a + 1 + 1).toNat)) (f' := { f with row := mText a.toNat, fam := mText (a + 1).toNat, qual := mText (a + 1 + 1).toNat }) HF.out.2 (by omega) rfl).upd (j := 3) (u := .int .u64 (a + 1 + 1 + 1))
        (f' := { f with row := mText a.toNat, fam := mText (a + 1).toNat, qual := mText (a + 1 + 1).toNat, ts := a + 1 + 1 + 1 }) HF.out.2 (by omega) rfl
      have hO4 := hO3.below hb4 hO3.lt.2
      have c6 := (hO4.at m _ (by simp [HF.out.2]; rfl)).2.2.2.2
      simp only [Nat.zero_add] at c6
      have z4 := fun j => World.ownsRow.frozenAt hO4 j
      have H4 : Hid (OwnC (w4.setCell ⟨g, m * 5 + 4, none⟩ (.string (mText (a + 1 + 1 + 1 + 1).toNat))) base g cap (fs.set m (mCel a)) ∧ w.grownBy (w4.setCell ⟨g, m * 5 + 4, none⟩ (.string (mText (a + 1 + 1 + 1 + 1).toNat))) (some g)) :=
        ⟨hO4.upd HF.out.2 (by omega) rfl, (((((H3.out.2.trans (grown_set _ _ _ _)).trans (grown_set _ _ _ _))).trans (grown_of_below hb4 _)).trans (grown_set _ _ _ _))⟩
      have HE : Hid (a = k + m * 5) := HR.out.1
      clear hO3 hO4 hb4 c3 c4 z3
      go_wp2_with fail
      refine ⟨⟨m + 1, a + 1 + 1 + 1 + 1 + 1, fs.set m (mCel a), by omega, by go_num, rfl, ?_, H4.out.1, by rw [List.length_set]; exact HR.out.2.2.1, ?_, H4.out.2⟩, ?_⟩
      · go_light
        have := HE.out
        omega
      · go_light
        exact markedC_set HR.out.2.2.2 HF.out.2 (by rw [← HE.out])
      · go_light
        simp [intOf]; omega
    · go_wp2_with fail
      go_ret
      have e1 : m = es.length := by omega
      refine ⟨fs, ?_, HR.out.2.1, HR.out.2.2.1, ?_, HG.out⟩
      · rw [HR.out.1, e1]; rfl
      · rw [← e1]; exact HR.out.2.2.2

set_option maxHeartbeats 2000000 in
theorem heldCellS_core (b off cap : Nat) (es : List Ent) (k : Int) (w : World) (hE : CelsAt w b off es) (hmk : markedC k es es.length) (hB : b < w.heap.size) (h0 : 0 < k) (h1 : k ≤ 2 ^ 30) (hn : es.length ≤ 1048576) :
    Calls Try.prog 17 #[.slice (some ⟨b, off, none⟩) es.length cap, .int .i64 k] w fun e w' =>
      e = .returned (.int .i64 (k + es.length * 5)) ∧ Below w.heap.size w w' := by
  have HE : Hid (CelsAt w b off es ∧ markedC k es es.length) := ⟨hE, hmk⟩
  clear hE hmk
  go_enter Try.func17, Try.ntmps17
  go_wp2
  go_loopw [1, 5] (fun c i wr => ∃ (m : Nat) (a : Int), m ≤ es.length ∧ i = .int .i64 m ∧ c = .int .i64 a ∧ a = k + m * 5 ∧ Below w.heap.size w wr) (fun _ i _ => es.length - (intOf i).toNat)
  case atStart => exact ⟨0, k, Nat.zero_le _, rfl, rfl, by simp, Below.refl _ _⟩
  case round =>
    obtain ⟨m, a, hm, rfl, rfl, ha, hb⟩ := hrel
    have ha0 : 0 < a := by omega
    have ha1 : a ≤ 2 ^ 31 := by omega
    have HA : Hid (a = k + m * 5) := ha
    clear ha
    have hs := hb.size
    by_cases hlt : m < es.length
    · obtain ⟨f, he⟩ : ∃ f, es[m]? = some f := ⟨_, List.getElem?_eq_getElem hlt⟩
      have hf : f.five = (mCel a).five := by
        have h := HE.out.2 m hlt
        rw [he, ← HA.out] at h
        simpa using h
      simp only [Ent.five, List.cons.injEq, Value.string.injEq, Value.int.injEq, and_true, true_and] at hf
      obtain ⟨f1, f2, f3, f4, f5⟩ := hf
      have HM : Hid (es[m]? = some f) := he
      clear he
      have z2 : (m : Int) < (es.length : Int) := by omega
      have hce : ∀ wx, Below w.heap.size w wx → wx.cell? ⟨b, off + m * 5, none⟩ = some (.string (mText a.toNat)) ∧ wx.cell? ⟨b, off + m * 5 + 1, none⟩ = some (.string (mText (a + 1).toNat)) ∧ wx.cell? ⟨b, off + m * 5 + 2, none⟩ = some (.string (mText (a + 1 + 1).toNat)) ∧
          wx.cell? ⟨b, off + m * 5 + 3, none⟩ = some (.int .u64 (a + 1 + 1 + 1)) ∧ wx.cell? ⟨b, off + m * 5 + 4, none⟩ = some (.string (mText (a + 1 + 1 + 1 + 1).toNat)) := by
        intro wx hx
        have h := (HE.out.1.below hx hB) m _ HM.out
        rw [f1, f2, f3, f4, f5] at h
        exact h
      have HC : Hid (∀ wx, Below w.heap.size w wx → wx.cell? ⟨b, off + m * 5, none⟩ = some (.string (mText a.toNat)) ∧ wx.cell? ⟨b, off + m * 5 + 1, none⟩ = some (.string (mText (a + 1).toNat)) ∧ wx.cell? ⟨b, off + m * 5 + 2, none⟩ = some (.string (mText (a + 1 + 1).toNat)) ∧
          wx.cell? ⟨b, off + m * 5 + 3, none⟩ = some (.int .u64 (a + 1 + 1 + 1)) ∧ wx.cell? ⟨b, off + m * 5 + 4, none⟩ = some (.string (mText (a + 1 + 1 + 1 + 1).toNat))) := hce
      clear f1 f2 f3 f4 f5
      clear hce
      have c1 := (HC.out wr hb).1
      go_upto_region 4 with fail
      go_cut [19] (fun s wx => s = .bool false ∧ Below w.heap.size w wx)
      case first =>
        go_region_with (go_at_call 47; refine (markText_in w _ _ ?hB (by omega) (by omega)).mono ?_; (case hB => (repeat (first | assumption | refine Below.drew ?_))); rintro e' w' ⟨rfl, hbb⟩; have cx := (HC.out w' hbb).1)
        all_goals go_wp2_with fail
        all_goals go_meet
        all_goals exact ⟨rfl, by assumption⟩
      case rest =>
      obtain ⟨rfl, h2⟩ := hcut
      clear c1
      obtain ⟨wa, rfl⟩ : ∃ wa : World, wa = wc := ⟨_, rfl⟩
      have c2 := (HC.out wa h2).2.1
      go_upto_region 7 with fail
      go_cut [29] (fun s wx => s = .bool false ∧ Below w.heap.size w wx)
      case first =>
        go_region_with (go_at_call 47; refine (markText_in w _ _ ?hB (by omega) (by omega)).mono ?_; (case hB => (repeat (first | assumption | refine Below.drew ?_))); rintro e' w' ⟨rfl, hbb⟩; have cx := (HC.out w' hbb).2.1)
        all_goals go_wp2_with fail
        all_goals go_meet
        all_goals exact ⟨rfl, by assumption⟩
      case rest =>
      obtain ⟨rfl, h3⟩ := hcut
      clear c2
      obtain ⟨wb, rfl⟩ : ∃ wb : World, wb = wc := ⟨_, rfl⟩
      have c3 := (HC.out wb h3).2.2.1
      go_upto_region 10 with fail
      go_cut [39] (fun s wx => s = .bool false ∧ Below w.heap.size w wx)
      case first =>
        go_region_with (go_at_call 47; refine (markText_in w _ _ ?hB (by omega) (by omega)).mono ?_; (case hB => (repeat (first | assumption | refine Below.drew ?_))); rintro e' w' ⟨rfl, hbb⟩; have cx := (HC.out w' hbb).2.2.1)
        all_goals go_wp2_with fail
        all_goals go_meet
        all_goals exact ⟨rfl, by assumption⟩
      case rest =>
      obtain ⟨rfl, h4⟩ := hcut
      clear c3
      obtain ⟨wd, rfl⟩ : ∃ wd : World, wd = wc := ⟨_, rfl⟩
      have c4 := (HC.out wd h4).2.2.2.1
      have c5 := (HC.out wd h4).2.2.2.2
      go_upto_region 16 with fail
      go_cut [59] (fun s wx => s = .bool false ∧ Below w.heap.size w wx)
      case first =>
        go_region_with (go_at_call 47; refine (markText_in w _ _ ?hB (by omega) (by omega)).mono ?_; (case hB => (repeat (first | assumption | refine Below.drew ?_))); rintro e' w' ⟨rfl, hbb⟩; have cx := (HC.out w' hbb).2.2.2.2)
        all_goals go_wp2_with fail
        all_goals go_meet
        all_goals exact ⟨rfl, by assumption⟩
      case rest =>
      obtain ⟨rfl, h5⟩ := hcut
      clear c4 c5
      go_wp2_with fail
      refine ⟨⟨m + 1, a + 1 + 1 + 1 + 1 + 1, by omega, by go_num, rfl, ?_, h5⟩, ?_⟩
      · go_light
        have := HA.out
        omega
      · go_light
        simp [intOf]; omega
    · go_wp2_with fail
      go_ret
      have e1 : m = es.length := by omega
      refine ⟨?_, hb⟩
      rw [HA.out, e1]; rfl
end Go.Proofs.Ytnncedndlhfdkac

/-
  eqRunS, markRunS over runs of the call's own.
-/
namespace Go.Proofs.Ytnncedndlhfdkac
open Go.ChangeShapes Go.WideShapes Go.ChangeAt Go.RowKit Go.Deep
set_option linter.unusedVariables false
set_option linter.unusedSimpArgs false
set_option maxRecDepth 100000

def RowsOf (l : List (Nat × List Ent)) (k : Nat) : Prop := ∃ p ∈ l, k = p.1
set_option maxHeartbeats 2000000 in
theorem markRunS_core (base g : Nat) (l : List (Nat × List Ent)) (w : World) (h : OwnRuns w base g l) (hn : l.length + totL l ≤ 1048576) :
    Calls Try.prog 15 #[.slice (some ⟨g, 0, none⟩) l.length l.length, .int .i64 1] w fun e w' =>
      ∃ a : Int, e = .returned (.int .i64 a) ∧ 0 ≤ a ∧ Chg (RowsOf l) w w' := by
  have HO : Hid (OwnRuns w base g l) := h
  clear h
  go_enter Try.func15, Try.ntmps15
  go_wp2_with fail
  go_loopw [1, 5] (fun c i wr => ∃ (m : Nat) (a : Int), m ≤ l.length ∧ i = .int .i64 m ∧ c = .int .i64 a ∧ 0 < a ∧ a ≤ 1 + totL (l.take m) * 6 ∧ OwnR wr base g (usOf l) ∧ (∀ p ∈ l.drop m, OwnE wr base p.1 p.2.length p.2) ∧ Chg (RowsOf l) w wr) (fun _ i _ => l.length - (intOf i).toNat)
  case atStart => exact ⟨0, 1, Nat.zero_le _, rfl, rfl, by omega, by simp [totL], HO.out.row, fun p hp => HO.out.rows.2 p (by simpa using hp), Chg.refl _ _⟩
  case round =>
    obtain ⟨m, a, hm, rfl, rfl, ha0, ha1, hR, hE, hC⟩ := hrel
    have HR : Hid (OwnR wr base g (usOf l) ∧ (∀ p ∈ l.drop m, OwnE wr base p.1 p.2.length p.2) ∧ Chg (RowsOf l) w wr) := ⟨hR, hE, hC⟩
    have HA : Hid (a ≤ 1 + totL (l.take m) * 6) := ha1
    have hab : a ≤ 2 ^ 30 := by have := totL_le l m; omega
    clear hR hE hC ha1
    by_cases hlt : m < l.length
    · obtain ⟨p, hp⟩ : ∃ p, l[m]? = some p := ⟨_, List.getElem?_eq_getElem hlt⟩
      have c0 := HR.out.1.cell (usOf_get hp)
      have hpl : p.2.length ≤ 1048576 := by have := totL_take hp; have := totL_le l (m + 1); omega
      have hdr : l.drop m = p :: l.drop (m + 1) := by
        obtain ⟨h1, h2⟩ := List.getElem?_eq_some_iff.1 hp
        rw [← h2]; exact List.drop_eq_getElem_cons h1
      have HP : Hid (l[m]? = some p ∧ l.drop m = p :: l.drop (m + 1)) := ⟨hp, hdr⟩
      have HPo : Hid (OwnE wr base p.1 p.2.length p.2) := HR.out.2.1 p (by rw [hdr]; simp)
      clear hp hdr
      have zm : (m : Int) < (l.length : Int) := by omega
      go_wp2_with fail
      refine (markEntryS_core base p.1 p.2.length p.2 a _ HPo.out ha0 hab hpl).mono ?_
      rintro e w1 ⟨fs, rfl, _, _, _, hg1⟩
      have hlg := List.mem_of_getElem? HP.out.1
      have hpw : ∀ q ∈ l.drop (m + 1), q.1 ≠ p.1 := by
        have h1 : (l.drop m).Pairwise (fun p q => p.1 < q.1) := HO.out.rows.1.drop
        rw [HP.out.2] at h1
        intro q hq
        have := (List.pairwise_cons.1 h1).1 q hq
        omega
      have HN : Hid (OwnR w1 base g (usOf l) ∧ (∀ q ∈ l.drop (m + 1), OwnE w1 base q.1 q.2.length q.2) ∧ Chg (RowsOf l) w w1) := by
        refine ⟨World.ownsRow.kept HR.out.1 hg1 (.inr (fun q => ?_)), fun q hq => World.ownsRow.kept (HR.out.2.1 q (by rw [HP.out.2]; exact List.mem_cons_of_mem _ hq)) hg1 (.inr (fun x => hpw q hq (Option.some.inj x))), HR.out.2.2.trans (Chg.of_grown hg1 (fun k hk => by cases hk; exact ⟨p, hlg, rfl⟩))⟩
        have h1 := HO.out.ne p hlg
        have h2 : g = p.1 := Option.some.inj q
        omega
      have HA2 : Hid (a + p.2.length * 6 ≤ 1 + totL (l.take (m + 1)) * 6) := by
        have := HA.out
        have := totL_take HP.out.1
        show a + p.2.length * 6 ≤ 1 + totL (l.take (m + 1)) * 6
        omega
      clear hg1 hpw hlg c0
      go_wp2_with fail
      go_roundw
      case rel => exact ⟨m + 1, a + p.2.length * 6, by omega, by go_num, rfl, by omega, HA2.out, HN.out.1, HN.out.2.1, HN.out.2.2⟩
      case measure => go_light; simp [intOf]; omega
    · have zm : ¬ (m : Int) < (l.length : Int) := by omega
      go_wp2_with fail
      go_ret
      exact ⟨a, rfl, by omega, HR.out.2.2⟩
end Go.Proofs.Ytnncedndlhfdkac

/-
  The merge over runs of the call's own.
-/
namespace Go.Proofs.Ytnncedndlhfdkac
open Go.ChangeShapes Go.WideShapes Go.ChangeAt Go.RowKit Go.Deep
set_option linter.unusedVariables false
set_option linter.unusedSimpArgs false
set_option maxRecDepth 100000

theorem specMerge_own (base g : Nat) (l : List (Nat × List Ent)) (lo hi : ByteArray) (hh : Bool) (w : World) (h : OwnRuns w base g l) (ho : okL l) (hn : l.length ≤ 1048576) :
    Calls Try.prog 9 #[.slice (some ⟨g, 0, none⟩) l.length l.length, .agg #[.string lo, .bool hh, .string hi]] w fun r w' =>
      ∃ (g cp : Nat) (L : List Ent), r = .returned (.slice (some ⟨g, 0, none⟩) L.length cp) ∧ OwnC w' w.heap.size g cp L ∧ Below w.heap.size w w' ∧ L.length ≤ 500000 ∧ MrgOf (l.map Prod.snd) (inR lo hh hi) L := by
  have := specMerge_core g 0 l.length (rmsOf l) lo hi hh w h.at (okM_of ho) h.lt.2 (by rw [rmsOf_len]; exact hn)
  rw [rmsOf_len, esM_rms] at this
  exact this
theorem implMerge_own (base g : Nat) (l : List (Nat × List Ent)) (lo hi : ByteArray) (hh : Bool) (w : World) (h : OwnRuns w base g l) (ho : okL l) (hn : l.length ≤ 1048576) :
    Calls Try.prog 12 #[.slice (some ⟨g, 0, none⟩) l.length l.length, .agg #[.string lo, .bool hh, .string hi]] w fun r w' =>
      ∃ (g cp : Nat) (L : List Ent), r = .returned (.slice (some ⟨g, 0, none⟩) L.length cp) ∧ OwnC w' w.heap.size g cp L ∧ Below w.heap.size w w' ∧ MrgOf (l.map Prod.snd) (inR lo hh hi) L := by
  have := implMerge_core g 0 l.length (rmsOf l) lo hi hh w h.at (okM_of ho) h.lt.2 (by rw [rmsOf_len]; exact hn)
  rw [rmsOf_len, esM_rms] at this
  exact this
theorem OwnC.chg {T : Nat → Prop} {w w' : World} {base g cp : Nat} {L : List Ent} (h : OwnC w base g cp L) (hb : Chg T w w') (hn : ¬ T g) : OwnC w' base g cp L := own_chg h hb (fun k q => by simp [Value.ownBlock] at q; subst q; exact hn)
end Go.Proofs.Ytnncedndlhfdkac

/-
  A run that came back: of the call's own, or nil; its marks.
-/
namespace Go.Proofs.Ytnncedndlhfdkac
open Go.ChangeShapes Go.WideShapes Go.ChangeAt Go.RowKit Go.Deep
set_option linter.unusedVariables false
set_option maxRecDepth 100000

/-- A slice of the call's own, or nil. -/
def OwnU (w : World) (base : Nat) (u : Value) (R : List Ent) : Prop := (u = .slice none 0 0 ∧ R = []) ∨ ∃ g cp, u = .slice (some ⟨g, 0, none⟩) R.length cp ∧ OwnE w base g cp R
theorem OwnE.caps {w : World} {base g cp : Nat} {R : List Ent} (h : OwnE w base g cp R) : R.length ≤ cp ∧ cp ≤ maxLen := by
  rcases h.2 with ⟨h0, _⟩ | ⟨g', cap', cur, hv, _, _, hn, hcap, _, _⟩
  · cases h0
  · simp only [Value.slice.injEq, Option.some.injEq, Addr.mk.injEq, and_true, true_and] at hv
    obtain ⟨rfl, rfl⟩ := hv
    exact ⟨hn, hcap⟩
theorem OwnU.ins {w : World} {base : Nat} {u : Value} {R : List Ent} (h : OwnU w base u R) : InEnts w u R := by
  rcases h with ⟨rfl, rfl⟩ | ⟨g, cp, rfl, hO⟩
  · exact .inl ⟨_, _, rfl, rfl⟩
  · exact InEnts.own hO hO.caps.1 hO.caps.2
theorem OwnU.kept {w w' : World} {base : Nat} {u : Value} {R : List Ent} {row : Option Nat} (h : OwnU w base u R) (hg : w.grownBy w' row) (hne : ∀ g, row = some g → g < base) : OwnU w' base u R := by
  rcases h with h | ⟨g, cp, rfl, hO⟩
  · exact .inl h
  · exact .inr ⟨g, cp, rfl, World.ownsRow.kept hO hg (.inr (fun q => by have := hne g q.symm; have := hO.lt.1; omega))⟩
theorem OwnU.row {w : World} {base : Nat} {u : Value} {R : List Ent} (h : OwnU w base u R) : ∀ g, u.ownBlock = some g → base ≤ g ∧ g < w.heap.size := by
  intro g hg
  rcases h with ⟨rfl, _⟩ | ⟨g', cp, rfl, hO⟩
  · cases hg
  · have : g' = g := Option.some.inj hg
    subst this
    exact hO.lt
theorem OwnU.keptNe {w w' : World} {base : Nat} {u : Value} {R : List Ent} {row : Option Nat} (h : OwnU w base u R) (hg : w.grownBy w' row) (hne : ∀ g, u.ownBlock = some g → row ≠ some g) : OwnU w' base u R := by
  rcases h with h | ⟨g, cp, rfl, hO⟩
  · exact .inl h
  · exact .inr ⟨g, cp, rfl, World.ownsRow.kept hO hg (.inr (fun q => hne g rfl q.symm))⟩
theorem OwnU.ownCells {w : World} {base : Nat} {u : Value} {R : List Ent} (h : OwnU w base u R) : u.cells = #[u] := by
  rcases h with ⟨rfl, _⟩ | ⟨g, cp, rfl, _⟩ <;> rfl

set_option maxHeartbeats 400000 in
theorem markEntryS_zero (a : Option Addr) (cap : Nat) (k : Int) (w : World) :
    Calls Try.prog 46 #[.slice a 0 cap, .int .i64 k] w fun e w' => e = .returned (.int .i64 k) ∧ Below w.heap.size w w' := by
  go_enter Try.func46, Try.ntmps46
  go_wp2
  go_loopw [1, 5] (fun c i wr => c = .int .i64 k ∧ i = .int .i64 0 ∧ wr = w) (fun _ i _ => 0)
  case atStart => exact ⟨rfl, rfl, rfl⟩
  case round =>
    obtain ⟨rfl, rfl, rfl⟩ := hrel
    go_wp2_with fail
    go_ret
    exact ⟨rfl, Below.refl _ _⟩
set_option maxHeartbeats 400000 in
theorem heldEntryS_zero (a : Option Addr) (cap : Nat) (k : Int) (w : World) :
    Calls Try.prog 51 #[.slice a 0 cap, .int .i64 k] w fun e w' => e = .returned (.int .i64 k) ∧ Below w.heap.size w w' := by
  go_enter Try.func51, Try.ntmps51
  go_wp2
  go_loopw [1, 5] (fun c i wr => c = .int .i64 k ∧ i = .int .i64 0 ∧ wr = w) (fun _ i _ => 0)
  case atStart => exact ⟨rfl, rfl, rfl⟩
  case round =>
    obtain ⟨rfl, rfl, rfl⟩ := hrel
    go_wp2_with fail
    go_ret
    exact ⟨rfl, Below.refl _ _⟩

/-- Marks laid: only blocks from 'base' on have turned. -/
theorem markEntryS_own (base : Nat) (u : Value) (R : List Ent) (k : Int) (w : World) (h : OwnU w base u R) (h0 : 0 < k) (h1 : k ≤ 2 ^ 30) (hn : R.length ≤ 1048576) (hbase : base ≤ w.heap.size) :
    Calls Try.prog 46 #[u, .int .i64 k] w fun e w' =>
      ∃ R', e = .returned (.int .i64 (k + R.length * 6)) ∧ OwnU w' base u R' ∧ R'.length = R.length ∧ marked k R' R'.length ∧ w.grownBy w' u.ownBlock := by
  rcases h with ⟨rfl, rfl⟩ | ⟨g, cp, rfl, hO⟩
  · refine (markEntryS_zero none 0 k w).mono ?_
    rintro e w' ⟨rfl, hb⟩
    exact ⟨[], by simp, .inl ⟨rfl, rfl⟩, rfl, fun j hj => by simp at hj, grown_of_below hb _⟩
  · refine (markEntryS_core base g cp R k w hO h0 h1 hn).mono ?_
    rintro e w' ⟨fs, rfl, hO', hl, hm, hg⟩
    exact ⟨fs, rfl, .inr ⟨g, cp, by rw [hl], hO'⟩, hl, by rw [hl]; exact hm, hg⟩
theorem heldEntryS_own (base : Nat) (u : Value) (R : List Ent) (k : Int) (w : World) (h : OwnU w base u R) (hm : marked k R R.length) (h0 : 0 < k) (h1 : k ≤ 2 ^ 30) (hn : R.length ≤ 1048576) :
    Calls Try.prog 51 #[u, .int .i64 k] w fun e w' => e = .returned (.int .i64 (k + R.length * 6)) ∧ Below w.heap.size w w' := by
  rcases h with ⟨rfl, rfl⟩ | ⟨g, cp, rfl, hO⟩
  · refine (heldEntryS_zero none 0 k w).mono ?_
    rintro e w' ⟨rfl, hb⟩
    exact ⟨by simp, hb⟩
  · exact heldEntryS_core g 0 cp R k w hO.at hm hO.lt.2 h0 h1 hn

set_option maxHeartbeats 400000 in
theorem markRun_own (base : Nat) (u : Value) (R : List Ent) (k : Int) (w : World) (h : OwnU w base u R) (h0 : 0 < k) (h1 : k ≤ 2 ^ 30) (hn : R.length ≤ 1048576) (hbase : base ≤ w.heap.size) :
    Calls Try.prog 21 #[.agg #[u], .int .i64 k] w fun e w' =>
      ∃ R', e = .returned (.int .i64 (k + R.length * 6)) ∧ OwnU w' base u R' ∧ R'.length = R.length ∧ marked k R' R'.length ∧ w.grownBy w' u.ownBlock := by
  have hu := h.ownCells
  have hb0 : Below w.heap.size w (w.alloc (Obj.cells #[u] 40)) := (Below.refl _ _).alloc (Nat.le_refl _) _
  have HU : Hid (OwnU (w.alloc (Obj.cells #[u] 40)) base u R) := h.kept (grown_of_below hb0 none) (fun g q => by cases q)
  clear h
  go_enter Try.func21, Try.ntmps21
  go_wp2_with fail
  refine (markEntryS_own base u R k _ HU.out h0 h1 hn (by simp; omega)).mono ?_
  rintro e w1 ⟨R', rfl, hU', hl, hm, hb1⟩
  have HF : Hid (OwnU w1 base u R' ∧ R'.length = R.length ∧ marked k R' R'.length) := ⟨hU', hl, hm⟩
  clear hU' hl hm
  go_wp2_with fail
  go_ret
  exact ⟨R', rfl, HF.out.1, HF.out.2.1, HF.out.2.2, (grown_of_below hb0 _).trans hb1⟩
set_option maxHeartbeats 400000 in
theorem heldRun_own (base : Nat) (u : Value) (R : List Ent) (k : Int) (w : World) (h : OwnU w base u R) (hm : marked k R R.length) (h0 : 0 < k) (h1 : k ≤ 2 ^ 30) (hn : R.length ≤ 1048576) :
    Calls Try.prog 22 #[.agg #[u], .int .i64 k] w fun e w' => e = .returned (.int .i64 (k + R.length * 6)) ∧ Below w.heap.size w w' := by
  have hu := h.ownCells
  have hb0 : Below w.heap.size w (w.alloc (Obj.cells #[u] 40)) := (Below.refl _ _).alloc (Nat.le_refl _) _
  have HU : Hid (OwnU (w.alloc (Obj.cells #[u] 40)) base u R ∧ marked k R R.length) := ⟨h.kept (grown_of_below hb0 none) (fun g q => by cases q), hm⟩
  clear h hm
  go_enter Try.func22, Try.ntmps22
  go_wp2_with fail
  refine (heldEntryS_own base u R k _ HU.out.1 HU.out.2 h0 h1 hn).mono ?_
  rintro e w1 ⟨rfl, hb1⟩
  have hge : 0 ≤ k + (R.length : Int) * 6 := by omega
  go_wp2_with fail
  go_ret
  exact ⟨rfl, hb0.trans (hb1.mono (by simp))⟩

end Go.Proofs.Ytnncedndlhfdkac

/-
  spec.BuildRun.
-/
namespace Go.Proofs.Ytnncedndlhfdkac
open Go.ChangeShapes Go.WideShapes Go.ChangeAt Go.RowKit Go.Deep
set_option linter.unusedVariables false

theorem ent_new (wx : World) (f : Ent) : EntsAt (wx.alloc (Obj.cells #[.string f.row, .string f.fam, .string f.qual, .int .u64 f.ts, .int .i64 f.kind, .string f.val] 63)) wx.heap.size 0 [f] := by
  intro j y hy
  obtain rfl : j = 0 := by
    have := (List.getElem?_eq_some_iff.1 hy).1
    simpa using this
  simp at hy
  subst hy
  simp

theorem OwnE.setBelow {w : World} {base g cap : Nat} {es : List Ent} (h : OwnE w base g cap es) (a : Addr) (ha : a.block < base) (u : Value) : OwnE (w.setCell a u) base g cap es := ownsRow_setCell_below h ha u

/-- The deletes of the column among the first 'j'. -/
def LargestTo (ws : List Ent) (e : Ent) (j : Nat) : Prop := ∀ i v, i < j → ws[i]? = some v → v.kind = 2 → sameCol v e = true → v.ts ≤ e.ts
theorem largest_of_to {ws : List Ent} {e : Ent} {j : Nat} (h : LargestTo ws e j) (hj : ws.length ≤ j) : Largest ws e := by
  intro v hv h1 h2
  obtain ⟨i, hi⟩ := List.getElem?_of_mem hv
  exact h i v (by have := (List.getElem?_eq_some_iff.1 hi).1; omega) hi h1 h2
theorem largestTo_succ {ws : List Ent} {e v : Ent} {j : Nat} (h : LargestTo ws e j) (hv : ws[j]? = some v) (hk : v.kind = 2 → sameCol v e = true → v.ts ≤ e.ts) : LargestTo ws e (j + 1) := by
  intro i u hi hu h1 h2
  by_cases e1 : i = j
  · subst e1
    rw [hv] at hu
    simp at hu
    subst hu
    exact hk h1 h2
  · exact h i u (by omega) hu h1 h2
theorem largestTo_bad {ws : List Ent} {e v : Ent} {j k : Nat} (hv : ws[j]? = some v) (h1 : v.kind = 2) (h2 : sameCol v e = true) (h3 : ¬ v.ts ≤ e.ts) (hk : j < k) : ¬ LargestTo ws e k := fun h => h3 (h j v hk hv h1 h2)
theorem largestTo_mono {ws : List Ent} {e : Ent} {j k : Nat} (h : LargestTo ws e k) (hj : j ≤ k) : LargestTo ws e j := fun i v hi => h i v (by omega)

set_option maxHeartbeats 4000000 in
theorem specBuild_core (b off cap : Nat) (ws : List Ent) (w : World) (hE : EntsAt w b off ws) (hok : ∀ e ∈ ws, e.ok) (hB : b < w.heap.size) (hlen : ws.length ≤ 1048576) :
    Calls Try.prog 28 #[.slice (some ⟨b, off, none⟩) ws.length cap] w fun r w' =>
      ∃ (g cp : Nat) (R : List Ent), r = .returned (.agg #[.slice (some ⟨g, 0, none⟩) R.length cp]) ∧ OwnE w' w.heap.size g cp R ∧ Below w.heap.size w w' ∧ R.length ≤ ws.length ∧ (GoodW ws → Kept ws ws.length R) ∧ (¬ GoodW ws → R = []) := by
  have HE : Hid (EntsAt w b off ws) := hE
  have HO : Hid (∀ e ∈ ws, e.ok) := hok
  clear hE hok
  obtain ⟨W0, hW0⟩ : ∃ W0 : World, W0 = (w.alloc (Obj.cells #[.slice none 0 0] 40)).alloc (Obj.cells #[] 63) := ⟨_, rfl⟩
  have hb0 : Below w.heap.size w W0 := by rw [hW0]; exact ((Below.refl _ _).alloc (Nat.le_refl _) _).alloc (by simp) _
  have hz0 : w.heap.size + 1 < W0.heap.size := by rw [hW0]; simp
  have ca : W0.cell? ⟨w.heap.size, 0, none⟩ = some (.slice none 0 0) := by rw [hW0]; simp
  have cf : W0.frozen? ⟨w.heap.size, 0, none⟩ = false := by rw [hW0]; simp
  have HS : Hid (OwnE W0 (w.heap.size + 1) (w.heap.size + 1) 0 []) := by
    show OwnE W0 (w.heap.size + 1) (w.heap.size + 1) 0 []
    have h := World.ownsRow_made (base := w.heap.size + 1) (e := 63) (size := 6) (w.alloc (Obj.cells #[.slice none 0 0] 40)) #[] 0 (by simp) (Nat.zero_le _) (by simp)
    rw [hW0]
    have h3 : ((w.alloc (Obj.cells #[.slice none 0 0] 40)).alloc (Obj.cells #[] 63)).ownsRow (w.heap.size + 1) 63 6 (.slice (some ⟨w.heap.size + 1, 0, none⟩) 0 0) 0 [] := by simpa using h
    exact h3
  have HE0 : Hid (EntsAt W0 b off ws) := HE.out.below hb0 hB
  go_enter Try.func28, Try.ntmps28
  go_wp2_with fail
  rw [← hW0]
  clear hW0
  refine (goodWrites_core b off cap ws _ HE0.out HO.out (by omega) hlen).mono ?_
  rintro e w1 ⟨r, rfl, hr, hb1⟩
  have HR : Hid (r = true ↔ GoodW ws) := hr
  clear hr
  have hs1 := hb1.size
  have ca1 : w1.cell? ⟨w.heap.size, 0, none⟩ = some (.slice none 0 0) := by rw [hb1.cell (p := ⟨w.heap.size, 0, none⟩) (by show w.heap.size < _; omega)]; exact ca
  have cf1 : w1.frozen? ⟨w.heap.size, 0, none⟩ = false := by rw [hb1.frozen (p := ⟨w.heap.size, 0, none⟩) (by show w.heap.size < _; omega)]; exact cf
  have HS1 : Hid (OwnE w1 (w.heap.size + 1) (w.heap.size + 1) 0 []) := HS.out.below hb1 (by omega)
  have HE1 : Hid (EntsAt w1 b off ws) := HE0.out.below hb1 (by omega)
  have k1 : Below w.heap.size w w1 := hb0.trans (hb1.mono (by omega))
  cases r
  · have HN : Hid (¬ GoodW ws) := fun h => Bool.noConfusion (HR.out.2 h)
    go_wp2_with fail
    refine bodyPost_ret (v := .agg #[.slice (some ⟨w.heap.size + 1, 0, none⟩) 0 0]) (by simp [results, Try.results28, go_sem, ca1]) rfl ⟨_, _, [], rfl, ?_, k1.setCell (by show w.heap.size ≤ w.heap.size; omega) _, by simp, fun h => absurd h HN.out, fun _ => rfl⟩
    exact (HS1.out.setBelow ⟨w.heap.size, 0, none⟩ (by show w.heap.size < _; omega) _).mono (by omega)
  have HG : Hid (GoodW ws) := HR.out.1 rfl
  clear HR
  go_wp2_with fail
  go_loopw [3, 4] (fun o i wr => ∃ (k g cp : Nat) (R : List Ent), k ≤ ws.length ∧ i = .int .i64 k ∧ o = .slice (some ⟨g, 0, none⟩) R.length cp ∧ OwnE wr (w.heap.size + 1) g cp R ∧ Kept ws k R ∧ R.length ≤ k ∧ Below w1.heap.size w1 wr) (fun _ i _ => ws.length - (intOf i).toNat)
  case atStart => exact ⟨0, _, 0, [], Nat.zero_le _, rfl, rfl, HS1.out, kept_zero ws, Nat.le_refl _, Below.refl _ _⟩
  case round =>
    obtain ⟨k, g, cp, R, hk, rfl, rfl, hO, hK, hRl, hb⟩ := hrel
    obtain ⟨wo, rfl⟩ : ∃ wo : World, wo = wr := ⟨_, rfl⟩
    have HK : Hid (OwnE wo (w.heap.size + 1) g cp R ∧ Kept ws k R) := ⟨hO, hK⟩
    have hg := hO.lt
    have hs := hb.size
    clear hO hK
    by_cases hlt : k < ws.length
    · obtain ⟨e, he⟩ : ∃ e, ws[k]? = some e := ⟨_, List.getElem?_eq_getElem hlt⟩
      have HEo : Hid (EntsAt wo b off ws) := HE1.out.below hb (by omega)
      obtain ⟨c0, c1, c2, c3, c4, c5⟩ := HEo.out k e he
      have HKe : Hid (ws[k]? = some e) := he
      clear he
      obtain ⟨W1, hW1⟩ : ∃ W1 : World, W1 = wo.alloc (Obj.cells #[.string e.row, .string e.fam, .string e.qual, .int .u64 e.ts, .int .i64 e.kind, .string e.val] 63) := ⟨_, rfl⟩
      have hbW : Below wo.heap.size wo W1 := by rw [hW1]; exact (Below.refl _ _).alloc (Nat.le_refl _) _
      have hzW : wo.heap.size < W1.heap.size := by rw [hW1]; simp
      have HN1 : Hid (EntsAt W1 wo.heap.size 0 [e]) := by show EntsAt W1 wo.heap.size 0 [e]; rw [hW1]; exact ent_new wo e
      have HEW : Hid (EntsAt W1 b off ws) := HEo.out.below hbW (by omega)
      cases g2 : (e.kind != 2)
      · have hk2 : e.kind = 2 := by simpa using g2
        have HK2 : Hid (e.kind = 2) := hk2
        clear hk2
        go_wp2_with fail
        rw [← hW1]
        clear hW1 c0 c1 c2 c3 c4 c5
        go_loopw [6, 7] (fun l i wr => ∃ (j : Nat) (lb : Bool), j ≤ ws.length ∧ i = .int .i64 j ∧ l = .bool lb ∧ (lb = true ↔ LargestTo ws e j) ∧ Below W1.heap.size W1 wr) (fun _ i _ => ws.length - (intOf i).toNat)
        case atStart => exact ⟨0, true, Nat.zero_le _, rfl, rfl, iffT (fun i v hi => by omega), Below.refl _ _⟩
        case round =>
          obtain ⟨j, lb, hj, rfl, rfl, hl, hbi⟩ := hrel
          have HL : Hid (lb = true ↔ LargestTo ws e j) := hl
          clear hl
          have hsi := hbi.size
          have hzw : wo.heap.size < wr.heap.size := by omega
          by_cases hjl : j < ws.length
          · obtain ⟨v, hv⟩ : ∃ v, ws[j]? = some v := ⟨_, List.getElem?_eq_getElem hjl⟩
            obtain ⟨c0, c1, c2, c3, c4, c5⟩ := HEW.out.below hbi (by omega) j v hv
            obtain ⟨d0, d1, d2, d3, d4, d5⟩ := HN1.out.below hbi (by omega) 0 e rfl
            simp only [Nat.zero_add, Nat.zero_mul] at d0 d1 d2 d3 d4 d5
            have HVj : Hid (ws[j]? = some v) := hv
            clear hv
            have hb7 : Below W1.heap.size W1 (wr.alloc (Obj.cells #[.string v.row, .string v.fam, .string v.qual, .int .u64 v.ts, .int .i64 v.kind, .string v.val] 63)) := hbi.alloc hbi.size _
            cases gv : (v.kind == 2)
            · have HL' : Hid (lb = true ↔ LargestTo ws e (j + 1)) := ⟨fun h => largestTo_succ (HL.out.1 h) HVj.out (fun q => by simp at gv; exact absurd q gv), fun h => HL.out.2 (largestTo_mono h (by omega))⟩
              go_wp2_with fail
              go_roundw
              case rel => exact ⟨j + 1, lb, by omega, by go_num, rfl, HL'.out, hb7⟩
              case measure => go_light; simp [intOf]; omega
            · have HV2 : Hid (v.kind = 2) := by show v.kind = 2; simpa using gv
              go_wp2_with fail
              refine (sameColumn_any v e _).mono ?_
              rintro e' w8 ⟨rfl, hb8⟩
              have hb9 := hb7.trans (hb8.mono (by simp; omega))
              obtain ⟨hc8, hf8⟩ := bcell hb8
              have hs8 := hb8.size
              have cw : ∀ o, w8.cell? ⟨wo.heap.size, o, none⟩ = wr.cell? ⟨wo.heap.size, o, none⟩ := fun o => by
                rw [hc8 _ _ (by simp; omega), World.cell?_alloc_past _ _ _ hzw]
              cases hsc : sameCol v e
              · have HL' : Hid (lb = true ↔ LargestTo ws e (j + 1)) := ⟨fun h => largestTo_succ (HL.out.1 h) HVj.out (fun _ q => by rw [hsc] at q; cases q), fun h => HL.out.2 (largestTo_mono h (by omega))⟩
                go_wp2_with fail
                go_roundw
                case rel => exact ⟨j + 1, lb, by omega, by go_num, rfl, HL'.out, hb9⟩
                case measure => go_light; simp [intOf]; omega
              · by_cases ht : e.ts < v.ts
                · have HL' : Hid (false = true ↔ LargestTo ws e (j + 1)) := iffF (largestTo_bad HVj.out HV2.out hsc (by omega) (by omega))
                  go_wp2_with fail
                  go_roundw
                  case rel => exact ⟨j + 1, false, by omega, by go_num, rfl, HL'.out, hb9⟩
                  case measure => go_light; simp [intOf]; omega
                · have HL' : Hid (lb = true ↔ LargestTo ws e (j + 1)) := ⟨fun h => largestTo_succ (HL.out.1 h) HVj.out (fun _ _ => by omega), fun h => HL.out.2 (largestTo_mono h (by omega))⟩
                  go_wp2_with fail
                  go_roundw
                  case rel => exact ⟨j + 1, lb, by omega, by go_num, rfl, HL'.out, hb9⟩
                  case measure => go_light; simp [intOf]; omega
          · have HLL : Hid (lb = true ↔ Largest ws e) := ⟨fun h => largest_of_to (HL.out.1 h) (by omega), fun h => HL.out.2 (fun i v hi hv => h v (List.mem_of_getElem? hv))⟩
            have hb3 : Below w1.heap.size w1 wr := (hb.trans (hbW.mono (by omega))).trans (hbi.mono (by omega))
            have HK3 : Hid (OwnE wr (w.heap.size + 1) g cp R) := (HK.out.1.below hbW hg.2).below hbi (by omega)
            cases lb
            · have HS' : Hid (Kept ws (k + 1) R) := kept_skip HK.out.2 HKe.out (fun h => by
                rcases h with h | h
                · exact h.1 HK2.out
                · exact Bool.noConfusion (HLL.out.2 h.2))
              go_wp2_with fail
              go_roundw
              case rel => exact ⟨k + 1, g, cp, R, by omega, by go_num, rfl, HK3.out, HS'.out, by omega, hb3⟩
              case measure => go_light; simp [intOf]; omega
            · have HS' : Hid (Kept ws (k + 1) (into R e)) := kept_step HG.out.2 HK.out.2 HKe.out (.inr ⟨HK2.out, HLL.out.1 rfl⟩)
              obtain ⟨d0, d1, d2, d3, d4, d5⟩ := HN1.out.below hbi (by omega) 0 e rfl
              simp only [Nat.zero_add, Nat.zero_mul] at d0 d1 d2 d3 d4 d5
              go_wp2_with fail
              refine (into_core g 0 cp R e _ HK3.out.at (by have := HK3.out.lt; omega) (by omega)).mono ?_
              rintro e' w3 ⟨g', cp', rfl, hO', hb4⟩
              have HO' : Hid (OwnE w3 wr.heap.size g' cp' (into R e)) := hO'
              have hlen' := length_into R e
              have hb5 := hb3.trans (hb4.mono (by omega))
              clear hO'
              go_wp2_with fail
              go_roundw
              case rel => exact ⟨k + 1, g', cp', into R e, by omega, by go_num, rfl, HO'.out.mono (by omega), HS'.out, by omega, hb5⟩
              case measure => go_light; simp [intOf]; omega
      · have HK2 : Hid (¬ e.kind = 2) := by show ¬ e.kind = 2; simpa using g2
        go_wp2_with fail
        rw [← hW1]
        clear hW1 c0 c1 c2 c3 c4 c5
        refine (stands_core b off cap ws k e _ HEW.out (by omega) HKe.out hlen).mono ?_
        rintro e' w2 ⟨s, rfl, hst, hb2⟩
        have HST : Hid (s = true ↔ Stands ws k) := hst
        clear hst
        have hs2 := hb2.size
        have hb3 : Below w1.heap.size w1 w2 := (hb.trans (hbW.mono (by omega))).trans (hb2.mono (by omega))
        have HK3 : Hid (OwnE w2 (w.heap.size + 1) g cp R) := (HK.out.1.below hbW hg.2).below hb2 (by omega)
        cases s
        · have HS' : Hid (Kept ws (k + 1) R) := kept_skip HK.out.2 HKe.out (fun h => by
            rcases h with h | h
            · exact Bool.noConfusion (HST.out.2 h.2)
            · exact HK2.out h.1)
          go_wp2_with fail
          go_roundw
          case rel => exact ⟨k + 1, g, cp, R, by omega, by go_num, rfl, HK3.out, HS'.out, by omega, hb3⟩
          case measure => go_light; simp [intOf]; omega
        · have HS' : Hid (Kept ws (k + 1) (into R e)) := kept_step HG.out.2 HK.out.2 HKe.out (.inl ⟨HK2.out, HST.out.1 rfl⟩)
          obtain ⟨d0, d1, d2, d3, d4, d5⟩ := HN1.out.below hb2 (by omega) 0 e rfl
          simp only [Nat.zero_add, Nat.zero_mul] at d0 d1 d2 d3 d4 d5
          go_wp2_with fail
          refine (into_core g 0 cp R e _ HK3.out.at (by have := HK3.out.lt; omega) (by omega)).mono ?_
          rintro e' w3 ⟨g', cp', rfl, hO', hb4⟩
          have HO' : Hid (OwnE w3 w2.heap.size g' cp' (into R e)) := hO'
          have hlen' := length_into R e
          have hb5 := hb3.trans (hb4.mono (by omega))
          clear hO'
          go_wp2_with fail
          go_roundw
          case rel => exact ⟨k + 1, g', cp', into R e, by omega, by go_num, rfl, HO'.out.mono (by omega), HS'.out, by omega, hb5⟩
          case measure => go_light; simp [intOf]; omega
    · have hkk : k = ws.length := by omega
      have ca2 : wo.cell? ⟨w.heap.size, 0, none⟩ = some (.slice none 0 0) := by rw [hb.cell (p := ⟨w.heap.size, 0, none⟩) (by show w.heap.size < _; omega)]; exact ca1
      have cf2 : wo.frozen? ⟨w.heap.size, 0, none⟩ = false := by rw [hb.frozen (p := ⟨w.heap.size, 0, none⟩) (by show w.heap.size < _; omega)]; exact cf1
      have HKK : Hid (Kept ws ws.length R) := by show Kept ws ws.length R; rw [← hkk]; exact HK.out.2
      go_wp2_with fail
      refine bodyPost_ret (v := .agg #[.slice (some ⟨g, 0, none⟩) R.length cp]) (by simp [results, Try.results28, go_sem, ca2]) rfl ⟨_, _, R, rfl, ?_, (k1.trans (hb.mono (by omega))).setCell (by show w.heap.size ≤ w.heap.size; omega) _, by omega, fun _ => HKK.out, fun h => absurd HG.out h⟩
      exact (HK.out.1.setBelow ⟨w.heap.size, 0, none⟩ (by show w.heap.size < _; omega) _).mono (by omega)
end Go.Proofs.Ytnncedndlhfdkac

