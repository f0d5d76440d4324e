import Derived.Deep.LoopGhost
import Derived.Deep.RegionHeld3
import Derived.Deep.DeepCutAuto
import Derived.Deep.RegionWith
import Derived.Test.YtnncedndlhfdkacPkAE
import Derived.Test.YtnncedndlhfdkacPkAD
import Derived.Test.YtnncedndlhfdkacPkAA
import Derived.Test.YtnncedndlhfdkacPkAC
/-
  impl.MergeRuns, walked.
-/
namespace Go.Proofs.Ytnncedndlhfdkac
open Go.ChangeShapes Go.WideShapes Go.ChangeAt Go.RowKit Go.Deep
set_option linter.unusedVariables false
set_option linter.unusedSimpArgs false
set_option maxRecDepth 100000

theorem mg_new (w : World) (cg : Nat) (base : Nat) (hb : base ≤ w.heap.size) (hc : OwnC w base cg 0 []) (hn : cg < w.heap.size) :
    MgAt (w.alloc (Obj.cells #[.string ⟨#[]⟩, .string ⟨#[]⟩, .string ⟨#[]⟩, .slice none 0 0, .bool false, .int .u64 0, .slice (some ⟨cg, 0, none⟩) 0 0] 76)) base w.heap.size (⟨#[]⟩, ⟨#[]⟩, ⟨#[]⟩) (.slice none 0 0) [] false 0 cg 0 [] where
  own := World.ownsRow_lit (base := base) (e := 76) (size := 7) w #[.string ⟨#[]⟩, .string ⟨#[]⟩, .string ⟨#[]⟩, .slice none 0 0, .bool false, .int .u64 0, .slice (some ⟨cg, 0, none⟩) 0 0] 1 hb (by decide) rfl
  dels := ⟨rfl, .inl ⟨rfl, rfl⟩⟩
  cells := hc.below ((Below.refl _ _).alloc (Nat.le_refl _) _) hn

theorem OwnH.mono {w : World} {base base' g cap : Nat} {d : Array Cu} (h : OwnH w base g cap d) (hb : base' ≤ base) : OwnH w base' g cap d := by
  refine ⟨h.1, ?_⟩
  rcases h.2 with hn | ⟨g', cap', cur, hv, h1, rest⟩
  · exact .inl hn
  · exact .inr ⟨g', cap', cur, hv, Nat.le_trans hb h1, rest⟩
/-- What stands when the heap is opened. -/
theorem ginv_start {l : List Rm} {lo hi : ByteArray} {hh : Bool} {W w3 w4 : World} {b off g cp mb cg : Nat} {d : Array Cu} (hR : RmsAt W b off l) (hG : GoodRs (esM l)) (k3 : Below W.heap.size W w3) (hM : MgAt w3 W.heap.size mb (⟨#[]⟩, ⟨#[]⟩, ⟨#[]⟩) (.slice none 0 0) [] false 0 cg 0 [])
    (hrow : RowOk w4 w3.heap.size g cp d) (hh' : Heap d) (ho : OpenTo l lo hh hi l.length d.toList) (hb4 : Below w3.heap.size w3 w4) :
    ∃ (A : Nat → Ent → Prop) (N : Nat) (S : Nat → Prop), GInv A N S w4.heap.size g cp mb W (w4.alloc (Obj.cells #[.slice (some ⟨g, 0, none⟩) d.size cp] 78)) [] d (⟨#[]⟩, ⟨#[]⟩, ⟨#[]⟩) ∧ (∀ P L, Flow A N P [] → Shown P L → Mrg (esM l) (inR lo hh hi) L) := by
  have hbA : Below w4.heap.size w4 (w4.alloc (Obj.cells #[.slice (some ⟨g, 0, none⟩) d.size cp] 78)) := (Below.refl _ _).alloc (Nat.le_refl _) _
  have hzA : (w4.alloc (Obj.cells #[.slice (some ⟨g, 0, none⟩) d.size cp] 78)).heap.size = w4.heap.size + 1 := by simp
  have s3 := k3.size
  have s4 := hb4.size
  have hgl := hrow.row.lt
  have hfree : ∀ j, (w4.alloc (Obj.cells #[.slice (some ⟨g, 0, none⟩) d.size cp] 78)).frozen? ⟨w4.heap.size, j, none⟩ = false := fun j =>
    World.ownsRow.frozenAt (World.ownsRow_lit (base := 0) (e := 78) (size := 1) w4 #[.slice (some ⟨g, 0, none⟩) d.size cp] 1 (Nat.zero_le _) (by decide) rfl) j
  have hmine : ∀ k, Mine mb (.slice none 0 0) cg k → k < w3.heap.size := fun k q => (hM.low k q).2
  refine ⟨_, _, fun k => k = g ∨ k = w4.heap.size ∨ ∃ c ∈ d, k = c.blk, ⟨⟨?_, hh', flow_open ho, ho.blks, .inl rfl, .inr (.inl rfl), fun c hc => .inr (.inr ⟨c, hc, rfl⟩), ?_⟩, ⟨.slice none 0 0, [], false, 0, cg, 0, [], ?_⟩, last_nil _, ?_, ?_, ?_, ?_⟩, ?_⟩
  · exact {
      hdr := by simp
      free := hfree
      lt := by omega
      ne := by omega
      row := OwnH.mono (hrow.row.below hbA hgl.2) s3
      own := by omega
      cur := fun c hc => (hrow.cur c hc).below hbA
      low := fun c hc => by
        obtain ⟨r, hr, q⟩ := ho.src c (by simpa using hc)
        obtain ⟨i, hi⟩ := List.getElem?_of_mem hr
        have := (hR i r hi).2.lt
        omega
      high := fun c hc => by
        have h1 := hrow.high c hc
        have h2 := (hrow.cur c hc).lt
        exact ⟨by omega, h1.2, by omega⟩ }
  · have h1 := ho.few
    have h2 := hG.1
    simp at h1 h2
    omega
  · refine ⟨(hM.below hb4).below hbA, mem_nil _ _, shown_nil, ?_, by simp⟩
    intro k q
    have h1 := hmine k q
    rintro (q | q | ⟨c, hc, q⟩)
    · omega
    · omega
    · have h2 := (hrow.high c hc).1
      omega
  · exact (k3.trans (hb4.mono s3)).trans (hbA.mono (by omega))
  · rintro k (q | q | ⟨c, hc, q⟩)
    · omega
    · omega
    · have h2 := (hrow.cur c hc).lt
      omega
  · rintro k (q | q | ⟨c, hc, q⟩)
    · omega
    · omega
    · have h2 := (hrow.high c hc).1
      omega
  · have h1 := ho.sum
    have h2 := hG.1
    simp at h2
    omega
  · intro P L hF hS
    exact shown_all hS hF.done

set_option maxHeartbeats 8000000 in
theorem implMerge_core (b off cap : Nat) (l : List Rm) (lo hi : ByteArray) (hh : Bool) (w : World) (hR : RmsAt w b off l) (hok : okM l) (hB : b < w.heap.size) (hlen : l.length ≤ 1048576) :
    Calls Try.prog 12 #[.slice (some ⟨b, off, none⟩) l.length cap, .agg #[.string lo, .bool hh, .string hi]] w fun r w' =>
      ∃ (g cp : Nat) (L : List Ent), r = .returned (.slice (some ⟨g, 0, none⟩) L.length cp) ∧ OwnC w' w.heap.size g cp L ∧ Below w.heap.size w w' ∧ MrgOf (esM l) (inR lo hh hi) L := by
  have HR : Hid (RmsAt w b off l) := hR
  have HO : Hid (okM l) := hok
  clear hR hok
  obtain ⟨Wa, hWa⟩ : ∃ Wa : World, Wa = w.alloc (Obj.cells #[.string lo, .bool hh, .string hi] 31) := ⟨_, rfl⟩
  have hba : Below w.heap.size w Wa := by rw [hWa]; exact (Below.refl _ _).alloc (Nat.le_refl _) _
  have hza : Wa.heap.size = w.heap.size + 1 := by rw [hWa]; simp
  have HGa : Hid (Wa.cell? ⟨w.heap.size, 0, none⟩ = some (.string lo) ∧ Wa.cell? ⟨w.heap.size, 1, none⟩ = some (.bool hh) ∧ Wa.cell? ⟨w.heap.size, 2, none⟩ = some (.string hi)) := by
    refine ⟨?_, ?_, ?_⟩ <;> (rw [hWa]; simp)
  have HRa : Hid (RmsAt Wa b off l) := HR.out.below hba hB
  go_enter Try.func12, Try.ntmps12
  go_wp2_with fail
  rw [← hWa]
  clear hWa
  refine (validStack_core b off cap l _ HRa.out HO.out (by omega) hlen).mono ?_
  rintro e w1 ⟨r, rfl, hr, hb1⟩
  have HG : Hid (r = true ↔ GoodRs (esM l)) := hr
  clear hr
  have hs1 := hb1.size
  have k1 : Below w.heap.size w w1 := hba.trans (hb1.mono (by omega))
  cases r
  · have HN : Hid (¬ GoodRs (esM l)) := fun h => Bool.noConfusion (HG.out.2 h)
    have HC : Hid (OwnC (w1.alloc (Obj.cells #[] 69)) w.heap.size w1.heap.size 0 []) := (ownC_new w1).mono (by omega)
    go_wp2_with fail
    go_ret
    exact ⟨_, 0, [], rfl, HC.out, k1.alloc (by omega) _, fun h => absurd h HN.out, fun _ => rfl⟩
  have HGd : Hid (GoodRs (esM l)) := HG.out.1 rfl
  clear HG
  obtain ⟨W2, hW2⟩ : ∃ W2 : World, W2 = w1.alloc (Obj.cells #[] 69) := ⟨_, rfl⟩
  have hb2 : Below w1.heap.size w1 W2 := by rw [hW2]; exact (Below.refl _ _).alloc (Nat.le_refl _) _
  have hz2 : W2.heap.size = w1.heap.size + 1 := by rw [hW2]; simp
  have HC2 : Hid (OwnC W2 w.heap.size w1.heap.size 0 []) := by show OwnC W2 w.heap.size w1.heap.size 0 []; rw [hW2]; exact (ownC_new w1).mono (by omega)
  obtain ⟨W3, hW3⟩ : ∃ W3 : World, W3 = W2.alloc (Obj.cells #[.string ⟨#[]⟩, .string ⟨#[]⟩, .string ⟨#[]⟩, .slice none 0 0, .bool false, .int .u64 0, .slice (some ⟨w1.heap.size, 0, none⟩) 0 0] 76) := ⟨_, rfl⟩
  have hb3 : Below W2.heap.size W2 W3 := by rw [hW3]; exact (Below.refl _ _).alloc (Nat.le_refl _) _
  have hz3 : W3.heap.size = W2.heap.size + 1 := by rw [hW3]; simp
  have HM3 : Hid (MgAt W3 w.heap.size (w1.heap.size + 1) (⟨#[]⟩, ⟨#[]⟩, ⟨#[]⟩) (.slice none 0 0) [] false 0 w1.heap.size 0 []) := by
    show MgAt W3 _ _ _ _ _ _ _ _ _ _
    rw [hW3, ← hz2]; exact mg_new W2 w1.heap.size w.heap.size (by omega) HC2.out (by omega)
  have k13 : Below w1.heap.size w1 W3 := hb2.trans (hb3.mono (by omega))
  have k3 : Below w.heap.size w W3 := k1.trans (k13.mono (by omega))
  have HR3 : Hid (RmsAt W3 b off l) := HR.out.below k3 hB
  have HG3 : Hid (W3.cell? ⟨w.heap.size, 0, none⟩ = some (.string lo) ∧ W3.cell? ⟨w.heap.size, 1, none⟩ = some (.bool hh) ∧ W3.cell? ⟨w.heap.size, 2, none⟩ = some (.string hi)) := by
    have hy : Below Wa.heap.size Wa W3 := hb1.trans (k13.mono (by omega))
    refine ⟨?_, ?_, ?_⟩
    · rw [hy.cell (p := ⟨w.heap.size, 0, none⟩) (by show w.heap.size < Wa.heap.size; omega)]; exact HGa.out.1
    · rw [hy.cell (p := ⟨w.heap.size, 1, none⟩) (by show w.heap.size < Wa.heap.size; omega)]; exact HGa.out.2.1
    · rw [hy.cell (p := ⟨w.heap.size, 2, none⟩) (by show w.heap.size < Wa.heap.size; omega)]; exact HGa.out.2.2
  have s3 := k3.size
  go_upto_region 4 with fail
  rw [← hW2, ← hW3]
  clear hW2 hW3
  generalize w1.heap.size + 1 = mb at *
  obtain ⟨q0, q1, q2⟩ := HG3.out
  go_wp2_with fail
  refine (openCursors_core b off cap l lo hi hh _ HR3.out HGd.out (by omega)).mono ?_
  rintro e w4 ⟨g, cp, d0, rfl, hrow, hhp, hop, hb4⟩
  obtain ⟨A, N, S, hI0, hfin⟩ := ginv_start HR.out HGd.out k3 HM3.out hrow hhp hop hb4
  have HI0 : Hid (GInv A N S w4.heap.size g cp mb w (w4.alloc (Obj.cells #[.slice (some ⟨g, 0, none⟩) d0.size cp] 78)) [] d0 (⟨#[]⟩, ⟨#[]⟩, ⟨#[]⟩)) := hI0
  have HFin : Hid (∀ P L, Flow A N P [] → Shown P L → Mrg (esM l) (inR lo hh hi) L) := hfin
  clear hrow hhp hop hI0 hfin q0 q1 q2
  obtain ⟨W5, hW5⟩ : ∃ W5 : World, W5 = w4.alloc (Obj.cells #[.slice (some ⟨g, 0, none⟩) d0.size cp] 78) := ⟨_, rfl⟩
  rw [← hW5] at HI0
  go_wp2_with fail
  rw [← hW5]
  clear hW5
  generalize w4.heap.size = hp at *
  go_loopg [] (N + 1) (fun kx wr => ∃ (P : List (Nat × Ent)) (d : Array Cu) (c : ByteArray × ByteArray × ByteArray), N - P.length ≤ kx ∧ GInv A N S hp g cp mb w wr P d c)
  case atStart => exact ⟨[], d0, _, by simp, HI0.out⟩
  case round =>
    obtain ⟨P, d, co, hkx, hI⟩ := hrel
    have HI : Hid (GInv A N S hp g cp mb w wr P d co) := hI
    clear hI HI0
    have c0 := HI.out.heap.mem.hdr
    by_cases hd : d.size = 0
    · have hdn : d = #[] := Array.eq_empty_of_size_eq_zero hd
      obtain ⟨dv, ds, dec, ts, cg, cc, L, hR'⟩ := HI.out.mst
      have c6 := hR'.at_.cell.2.2.2.2.2.2.1
      have HF : Hid (OwnC wr w.heap.size cg cc L ∧ Below w.heap.size w wr ∧ MrgOf (esM l) (inR lo hh hi) L) := by
        refine ⟨hR'.at_.cells, HI.out.below, fun _ => HFin.out P L ?_ hR'.shown, fun h => absurd HGd.out h⟩
        have := HI.out.heap.flow
        rw [hdn] at this
        exact this
      rw [hd] at c0
      clear hR' hdn hd
      go_wp2_with fail
      refine (len_core _ _ _ _).mono ?_
      rintro e wx ⟨rfl, rfl⟩
      go_wp2_with fail
      go_ret
      exact ⟨cg, cc, L, rfl, HF.out.1, HF.out.2.1, HF.out.2.2⟩
    · obtain ⟨c, t, rfl⟩ : ∃ c t, d = (⟨c :: t⟩ : Array Cu) := by
        obtain ⟨dl⟩ := d
        cases dl with
        | nil => exact absurd rfl hd
        | cons c t => exact ⟨c, t, rfl⟩
      have hc0 : wr.cell? ⟨hp, 0, none⟩ = some (.slice (some ⟨g, 0, none⟩) (t.length + 1) cp) := c0
      have hc1 : wr.cell? ⟨g, 0, none⟩ = some (ifc c) := HI.out.heap.mem.row.cell (i := 0) (by simp)
      have HC : Hid (CuAt wr c) := HI.out.heap.mem.cur c (by simp)
      have hPN : P.length + 1 ≤ N := by
        have := (flow_min HI.out.heap.heap (fun x hx => (HI.out.heap.mem.cur x (by simpa using hx)).here) HI.out.heap.flow).2.len
        simpa using this
      clear c0 hd
      go_wp2_with fail
      refine (len_core _ _ _ _).mono ?_
      rintro e wx ⟨rfl, rfl⟩
      have zt : (0 : Int) < ((t.length + 1 : Nat) : Int) := by omega
      have mE := meth_entry
      have mA := meth_age
      go_upto_region 6 with fail
      go_region_held3 (fun w' => w'.cell? ⟨hp, 0, none⟩ = some (.slice (some ⟨g, 0, none⟩) (t.length + 1) cp) ∧ w'.cell? ⟨g, 0, none⟩ = some (.iface 117 (.pointer (some ⟨c.blk, 0, none⟩)))) (go_keep)
        ((first
          | (go_at_call 149; refine (entry_core c _ (HC.out.below ((Below.refl _ _).drew))).mono ?_; rintro e' w6 ⟨rfl, hb6⟩; have hq6 : Below wx.heap.size wx w6 := ((Below.refl wx.heap.size wx).drew).trans hb6; have y0 := (HI.out.below' hq6).heap.mem.hdr; have y1 : w6.cell? ⟨g, 0, none⟩ = some (.iface 117 (.pointer (some ⟨c.blk, 0, none⟩))) := (HI.out.below' hq6).heap.mem.row.cell (i := 0) (by simp))
          | (go_at_call 148; refine (age_core c _ (HC.out.below hq6)).mono ?_; rintro e' w7 ⟨rfl, hb7⟩; have hq7 : Below wx.heap.size wx w7 := hq6.trans (hb7.mono hq6.size); have y2 := (HI.out.below' hq7).heap.mem.hdr; have y3 : w7.cell? ⟨g, 0, none⟩ = some (.iface 117 (.pointer (some ⟨c.blk, 0, none⟩))) := (HI.out.below' hq7).heap.mem.row.cell (i := 0) (by simp))
          | (go_at_call 43; refine (take_top (HI.out.below' hq7)).mono ?_; rintro e' w8 ⟨rfl, hH8, hM8, hB8, hS8⟩; have y4 := hH8.mem.hdr; have y5 : w8.cell? ⟨g, 0, none⟩ = some (.iface 117 (.pointer (some ⟨c.blk, 0, none⟩))) := hH8.mem.row.cell (i := 0) (by simp); have H8 : Hid (HeapOk A N S hp w.heap.size g cp w8 P ⟨c :: t⟩ ∧ MSt S w.heap.size mb (P ++ [(c.age, c.head)]) w8 c.head.col ∧ Below w.heap.size w w8 ∧ wx.heap.size ≤ w8.heap.size) := ⟨hH8, hM8, hB8, Nat.le_trans hq7.size hS8⟩; clear hH8 hM8 hB8 hS8)))
      go_wp2_with fail
      refine (step_top H8.out.1 H8.out.2.1 H8.out.2.2.1 (fun k q => by have := HI.out.inS k q; have := H8.out.2.2.2; omega) HI.out.lowS HI.out.short).mono ?_
      rintro e' w9 ⟨rfl, d', hN9⟩
      have H9 : Hid (GInv A N S hp g cp mb w w9 (P ++ [(c.age, c.head)]) d' c.head.col) := hN9
      clear hN9
      go_wp2_with fail
      go_roundg (N - (P.length + 1))
      case measure => omega
      case rel => exact ⟨P ++ [(c.age, c.head)], d', c.head.col, by simp, H9.out⟩
end Go.Proofs.Ytnncedndlhfdkac

/-
  spec.MergeRuns.
-/
namespace Go.Proofs.Ytnncedndlhfdkac
open Go.ChangeShapes Go.WideShapes Go.ChangeAt Go.RowKit Go.Deep
set_option linter.unusedVariables false
set_option linter.unusedSimpArgs false
set_option maxRecDepth 100000

theorem ord_long : ∀ (R ws : List Ent), Ord R → (∀ x ∈ R, x ∈ ws) → R.length ≤ ws.length
  | [], _, _, _ => by simp
  | a :: R, ws, h, hs => by
    have h' := List.pairwise_cons.1 h
    obtain ⟨l1, l2, rfl⟩ := List.append_of_mem (hs a (by simp))
    have := ord_long R (l1 ++ l2) h'.2 (fun x hx => by
      have h1 := hs x (List.mem_cons_of_mem _ hx)
      simp only [List.mem_append, List.mem_cons] at h1 ⊢
      rcases h1 with h1 | rfl | h1
      · exact .inl h1
      · have := h'.1 x hx
        rw [keyCmp_self] at this
        omega
      · exact .inr h1)
    simp at this ⊢
    omega
theorem flat_len : ∀ (rs : List (List Ent)), (∀ es ∈ rs, GoodR es) → rs.flatten.length ≤ 10000 * rs.length
  | [], _ => by simp
  | es :: rs, h => by
    have h1 := (h es (by simp)).1.1
    have h2 := flat_len rs (fun x hx => h x (List.mem_cons_of_mem _ hx))
    rw [List.flatten_cons, List.length_append, List.length_cons]
    omega
theorem mrgTo_short {rs : List (List Ent)} {inr : ByteArray → Bool} {i j : Nat} {L : List Ent} (hG : GoodRs rs) (h : MrgTo rs inr i j L) : L.length ≤ 500000 := by
  have h1 := ord_long L rs.flatten h.1 (mrgTo_len h)
  have h2 := flat_len rs hG.2
  have h3 := hG.1
  omega
theorem OwnC.ne_row {w : World} {base g cp base' g' cp' : Nat} {es fs : List Ent} (h : OwnC w base g cp es) (h' : OwnE w base' g' cp' fs) : g ≠ g' := by
  rcases h.2 with ⟨h0, _⟩ | ⟨g1, cap1, cur, hv, _, hc, _⟩
  · cases h0
  · rcases h'.2 with ⟨h0, _⟩ | ⟨g2, cap2, cur2, hv2, _, hc2, _⟩
    · cases h0
    · simp only [Value.slice.injEq, Option.some.injEq, Addr.mk.injEq, and_true, true_and] at hv hv2
      obtain ⟨rfl, rfl⟩ := hv
      obtain ⟨rfl, rfl⟩ := hv2
      intro q
      rw [q, hc2] at hc
      simp at hc
theorem inRange_is (lo hi row : ByteArray) (hh : Bool) {s : Bool} (hs : inR lo hh hi row = s) (w : World) :
    Calls Try.prog 35 #[.agg #[.string lo, .bool hh, .string hi], .string row] w fun e w' => e = .returned (.bool s) ∧ Below w.heap.size w w' := hs ▸ specInRange_core lo hi row hh w
theorem at_of {l : List Rm} {k j : Nat} {r : Rm} {e : Ent} (hr : l[k]? = some r) (he : r.es[j]? = some e) : At (esM l) k j e := ⟨r.es, by rw [List.getElem?_map, hr]; rfl, he⟩
set_option maxHeartbeats 16000000 in
theorem specMerge_core (b off cap : Nat) (l : List Rm) (lo hi : ByteArray) (hh : Bool) (w : World) (hR : RmsAt w b off l) (hok : okM l) (hB : b < w.heap.size) (hlen : l.length ≤ 1048576) :
    Calls Try.prog 9 #[.slice (some ⟨b, off, none⟩) l.length cap, .agg #[.string lo, .bool hh, .string hi]] w fun r w' =>
      ∃ (g cp : Nat) (L : List Ent), r = .returned (.slice (some ⟨g, 0, none⟩) L.length cp) ∧ OwnC w' w.heap.size g cp L ∧ Below w.heap.size w w' ∧ L.length ≤ 500000 ∧ MrgOf (esM l) (inR lo hh hi) L := by
  have HR : Hid (RmsAt w b off l) := hR
  have HO : Hid (okM l) := hok
  clear hR hok
  obtain ⟨Wa, hWa⟩ : ∃ Wa : World, Wa = w.alloc (Obj.cells #[.string lo, .bool hh, .string hi] 31) := ⟨_, rfl⟩
  have hba : Below w.heap.size w Wa := by rw [hWa]; exact (Below.refl _ _).alloc (Nat.le_refl _) _
  have hza : Wa.heap.size = w.heap.size + 1 := by rw [hWa]; simp
  have HGa : Hid (Wa.cell? ⟨w.heap.size, 0, none⟩ = some (.string lo) ∧ Wa.cell? ⟨w.heap.size, 1, none⟩ = some (.bool hh) ∧ Wa.cell? ⟨w.heap.size, 2, none⟩ = some (.string hi)) := by
    refine ⟨?_, ?_, ?_⟩ <;> (rw [hWa]; simp)
  obtain ⟨W0, hW0⟩ : ∃ W0 : World, W0 = Wa.alloc (Obj.cells #[] 69) := ⟨_, rfl⟩
  have hb0 : Below Wa.heap.size Wa W0 := by rw [hW0]; exact (Below.refl _ _).alloc (Nat.le_refl _) _
  have hz0 : W0.heap.size = w.heap.size + 1 + 1 := by rw [hW0]; simp [hza]
  have HC0 : Hid (OwnC W0 w.heap.size (w.heap.size + 1) 0 []) := by
    show OwnC W0 w.heap.size (w.heap.size + 1) 0 []
    rw [hW0, ← hza]; exact (ownC_new Wa).mono (by omega)
  have kb0 : Below w.heap.size w W0 := hba.trans (hb0.mono (by omega))
  have HR0 : Hid (RmsAt W0 b off l) := HR.out.below kb0 hB
  go_enter Try.func9, Try.ntmps9
  go_wp2_with fail
  rw [← hWa, ← hW0]
  clear hWa hW0
  refine (goodRuns_core b off cap l _ HR0.out HO.out (by omega) hlen).mono ?_
  rintro e w1 ⟨r, rfl, hr, hb1⟩
  have HG : Hid (r = true ↔ GoodRs (esM l)) := hr
  clear hr
  have hs1 := hb1.size
  have k1 : Below w.heap.size w w1 := kb0.trans (hb1.mono (by omega))
  have HC1 : Hid (OwnC w1 w.heap.size (w.heap.size + 1) 0 []) := HC0.out.below hb1 (by omega)
  cases r
  · have HN : Hid (¬ GoodRs (esM l)) := fun h => Bool.noConfusion (HG.out.2 h)
    go_wp2_with fail
    go_ret
    exact ⟨_, 0, [], rfl, HC1.out, k1, by simp, fun h => absurd h HN.out, fun _ => rfl⟩
  have HGd : Hid (GoodRs (esM l)) := HG.out.1 rfl
  clear HG
  obtain ⟨W1, hW1⟩ : ∃ W1 : World, W1 = w1.alloc (Obj.cells #[] 63) := ⟨_, rfl⟩
  have hbA : Below w1.heap.size w1 W1 := by rw [hW1]; exact (Below.refl _ _).alloc (Nat.le_refl _) _
  have hzA : w1.heap.size < W1.heap.size := by rw [hW1]; simp
  have HL1 : Hid (OwnE W1 w1.heap.size w1.heap.size 0 []) := by
    show OwnE W1 w1.heap.size w1.heap.size 0 []
    rw [hW1]
    exact World.ownsRow_made w1 #[] 0 (Nat.le_refl _) (Nat.zero_le _) (by simp)
  have HR1 : Hid (RmsAt W1 b off l) := (HR0.out.below hb1 (by omega)).below hbA (by omega)
  have HCA : Hid (OwnC W1 w.heap.size (w.heap.size + 1) 0 []) := HC1.out.below hbA (by omega)
  have HRg : Hid (∀ wx, Below W1.heap.size W1 wx → wx.cell? ⟨w.heap.size, 0, none⟩ = some (.string lo) ∧ wx.cell? ⟨w.heap.size, 1, none⟩ = some (.bool hh) ∧ wx.cell? ⟨w.heap.size, 2, none⟩ = some (.string hi)) := by
    intro wx hx
    have hy : Below Wa.heap.size Wa wx := ((hb0.trans (hb1.mono (by omega))).trans (hbA.mono (by omega))).trans (hx.mono (by omega))
    refine ⟨?_, ?_, ?_⟩
    · rw [hy.cell (p := ⟨w.heap.size, 0, none⟩) (by show w.heap.size < Wa.heap.size; omega)]; exact HGa.out.1
    · rw [hy.cell (p := ⟨w.heap.size, 1, none⟩) (by show w.heap.size < Wa.heap.size; omega)]; exact HGa.out.2.1
    · rw [hy.cell (p := ⟨w.heap.size, 2, none⟩) (by show w.heap.size < Wa.heap.size; omega)]; exact HGa.out.2.2
  go_wp2_with fail
  rw [← hW1]
  clear hW1
  go_loopw [6, 7] (fun o i wr => ∃ (k g cp : Nat) (L : List Ent), k ≤ l.length ∧ i = .int .i64 k ∧ o = .slice (some ⟨g, 0, none⟩) L.length cp ∧ OwnE wr w1.heap.size g cp L ∧ MrgTo (esM l) (inR lo hh hi) k 0 L ∧ Below W1.heap.size W1 wr) (fun _ i _ => l.length - (intOf i).toNat)
  case atStart => exact ⟨0, _, 0, [], Nat.zero_le _, rfl, rfl, HL1.out, mrgTo_zero _ _, Below.refl _ _⟩
  case round =>
    obtain ⟨k, g, cp, L, hk, rfl, rfl, hO, hK, hb⟩ := hrel
    obtain ⟨wo, rfl⟩ : ∃ wo : World, wo = wr := ⟨_, rfl⟩
    have HK : Hid (OwnE wo w1.heap.size g cp L ∧ MrgTo (esM l) (inR lo hh hi) k 0 L) := ⟨hO, hK⟩
    have hLl := mrgTo_short HGd.out hK
    have hs := hb.size
    have hg := hO.lt
    clear hO hK
    by_cases hlt : k < l.length
    · obtain ⟨r, hr⟩ : ∃ r, l[k]? = some r := ⟨_, List.getElem?_eq_getElem hlt⟩
      have HRr : Hid (l[k]? = some r ∧ GoodR r.es) := ⟨hr, goodRs_mem HGd.out (List.mem_of_getElem? hr)⟩
      have hrl : r.es.length ≤ 10000 := HRr.out.2.1.1
      clear hr
      have zk : (k : Int) < (l.length : Int) := by omega
      go_wp2_with fail
      go_loopw [6, 8] (fun o i wr => ∃ (j g cp : Nat) (L : List Ent), j ≤ r.es.length ∧ i = .int .i64 j ∧ o = .slice (some ⟨g, 0, none⟩) L.length cp ∧ OwnE wr w1.heap.size g cp L ∧ MrgTo (esM l) (inR lo hh hi) k j L ∧ Below W1.heap.size W1 wr) (fun _ i _ => r.es.length - (intOf i).toNat)
      case atStart => exact ⟨0, _, _, L, Nat.zero_le _, rfl, rfl, HK.out.1, HK.out.2, hb⟩
      case round =>
        clear HK hb hs hg hLl
        obtain ⟨j, g, cp, L, hj, rfl, rfl, hO, hK, hb⟩ := hrel
        obtain ⟨wi, rfl⟩ : ∃ wi : World, wi = wr := ⟨_, rfl⟩
        have HK : Hid (OwnE wi w1.heap.size g cp L ∧ MrgTo (esM l) (inR lo hh hi) k j L) := ⟨hO, hK⟩
        have hLl := mrgTo_short HGd.out hK
        have hs := hb.size
        have hg := hO.lt
        clear hO hK
        have c0 := ((HR1.out.below hb (by omega)) k r HRr.out.1).1
        by_cases hjl : j < r.es.length
        · obtain ⟨e, he⟩ : ∃ e, r.es[j]? = some e := ⟨_, List.getElem?_eq_getElem hjl⟩
          obtain ⟨c1, c2, c3, c4, c5, c6⟩ := ((HR1.out.below hb (by omega)) k r HRr.out.1).2.ents j e he
          have HAt : Hid (At (esM l) k j e) := at_of HRr.out.1 he
          clear he
          obtain ⟨W2, hW2⟩ : ∃ W2 : World, W2 = wi.alloc (Obj.cells #[.string e.row, .string e.fam, .string e.qual, .int .u64 e.ts, .int .i64 e.kind, .string e.val] 63) := ⟨_, rfl⟩
          have hbW : Below wi.heap.size wi W2 := by rw [hW2]; exact (Below.refl _ _).alloc (Nat.le_refl _) _
          have hzW : W2.heap.size = wi.heap.size + 1 := by rw [hW2]; simp
          have HX2 : Hid (EntsAt W2 wi.heap.size 0 [e]) := by show EntsAt W2 wi.heap.size 0 [e]; rw [hW2]; exact ent_box wi e
          have HL2 : Hid (OwnE W2 w1.heap.size g cp L) := HK.out.1.below hbW hg.2
          have hb2 : Below W1.heap.size W1 W2 := hb.trans (hbW.mono hs)
          have zj : (j : Int) < (r.es.length : Int) := by omega
          go_upto_region 12 with fail
          rw [← hW2]
          clear hW2 c0 c1 c2 c3 c4 c5 c6
          obtain ⟨d0, d1, d2, d3, d4, d5⟩ := HX2.out 0 e rfl
          simp only [Nat.zero_add, Nat.zero_mul] at d0 d1 d2 d3 d4 d5
          obtain ⟨q0, q1, q2⟩ := HRg.out W2 hb2
          cases k0 : (e.kind == 0)
          · have HN : Hid (MrgTo (esM l) (inR lo hh hi) k (j + 1) L) := mrgTo_skip HK.out.2 HAt.out (fun q => by have := q.1; simp at k0; exact k0 this)
            go_wp2_with fail
            go_roundw
            case rel => exact ⟨j + 1, g, cp, L, by omega, by go_num, rfl, HL2.out, HN.out, hb2⟩
            case measure => go_light; simp [intOf]; omega
          · go_wp2_with fail
            cases hir : inR lo hh hi e.row
            · have HN : Hid (MrgTo (esM l) (inR lo hh hi) k (j + 1) L) := mrgTo_skip HK.out.2 HAt.out (fun q => by have := q.2.1; rw [hir] at this; cases this)
              refine (inRange_is lo hi e.row hh hir _).mono ?_
              rintro e' w3 ⟨rfl, hb3⟩
              have hs3 := hb3.size
              have hb4 := hb2.trans (hb3.mono (by omega))
              have HL3 : Hid (OwnE w3 w1.heap.size g cp L) := HL2.out.below hb3 (by omega)
              clear d0 d1 d2 d3 d4 d5 q0 q1 q2
              go_wp2_with fail
              go_roundw
              case rel => exact ⟨j + 1, g, cp, L, by omega, by go_num, rfl, HL3.out, HN.out, hb4⟩
              case measure => go_light; simp [intOf]; omega
            · refine (inRange_is lo hi e.row hh hir _).mono ?_
              rintro e' w3 ⟨rfl, hb3⟩
              have hs3 := hb3.size
              have hb4 := hb2.trans (hb3.mono (by omega))
              have HL3 : Hid (OwnE w3 w1.heap.size g cp L) := HL2.out.below hb3 (by omega)
              have HX3 : Hid (EntsAt w3 wi.heap.size 0 [e]) := HX2.out.below hb3 (by omega)
              have HIR : Hid (e.kind = 0 ∧ inR lo hh hi e.row = true) := ⟨by simpa using k0, hir⟩
              clear d0 d1 d2 d3 d4 d5 q0 q1 q2
              go_wp2_with fail
              go_loopw [10, 11] (fun o i wr => ∃ (m : Nat) (hd : Bool), m ≤ k ∧ i = .int .i64 m ∧ o = .bool hd ∧ (hd = true ↔ HidTo (esM l) m e) ∧ Below w3.heap.size w3 wr) (fun _ i _ => k - (intOf i).toNat)
              case atStart => exact ⟨0, false, Nat.zero_le _, rfl, rfl, iffF (hidTo_zero _ _), Below.refl _ _⟩
              case round =>
                obtain ⟨m, hd, hm, rfl, rfl, hH, hbm⟩ := hrel
                have HH : Hid (hd = true ↔ HidTo (esM l) m e) := hH
                have hsm := hbm.size
                clear hH
                have hbm4 : Below W1.heap.size W1 wr := hb4.trans (hbm.mono (by omega))
                by_cases hmk : m < k
                · obtain ⟨r', hr'⟩ : ∃ r', l[m]? = some r' := ⟨_, List.getElem?_eq_getElem (by omega)⟩
                  have hg' := goodRs_mem HGd.out (List.mem_of_getElem? hr')
                  have hl' : r'.es.length ≤ 1048576 := by have := hg'.1.1; omega
                  obtain ⟨y0, y1⟩ := rms_out (HR1.out.below hbm4 (by omega)) (by omega) hr'
                  obtain ⟨x0, x1, x2, x3, x4, x5⟩ := ents_out (HX3.out.below hbm (by omega)) (by omega) (rfl : [e][0]? = some e)
                  simp only [Nat.zero_add, Nat.zero_mul] at x0 x1 x2 x3 x4 x5
                  have HY : Hid (∀ n : Out wr, r'.at n.u) := y1
                  have HS : Hid (HidTo (esM l) (m + 1) e ↔ HidTo (esM l) m e ∨ (saysF e r'.es 0).1 ≠ 0) := by
                    have h1 := hidTo_succ (rs := esM l) (k := m) (x := e) (ds := r'.es) (by rw [List.getElem?_map, hr']; rfl)
                    have h2 := saysF_kills e r'.es 0 hg'.1.2
                    show _ ↔ _
                    rw [h1, h2]; simp
                  clear y1 hr' hg'
                  have zm : (m : Int) < (l.length : Int) := by omega
                  have inh : Nonempty (Out wr) := ⟨⟨wr, Below.refl _ _⟩⟩
                  go_upto_region 17 with fail
                  refine wp_region_out (by kernel_rfl) (by kernel_rfl) ?_
                  repeat (go_big_quiet_step ((go_at_call 36; exact Calls.out_of (says_core r' e _ (HY.out _) hl'))))
                  refine wpQuiet_nil ?_
                  rintro wy ⟨⟨wx, hby⟩, rfl⟩
                  clear x0 x1 x2 x3 x4 x5 y0
                  have hby' := hbm.trans (hby.mono hsm)
                  generalize (saysF e r'.es 0).1 = sx at *
                  generalize (saysF e r'.es 0).2 = sv at *
                  cases hd
                  · cases hsx : (sx != 0)
                    · have HN : Hid (false = true ↔ HidTo (esM l) (m + 1) e) := iffF (fun q => by
                        rcases HS.out.1 q with q | q
                        · exact Bool.noConfusion (HH.out.2 q)
                        · simp at hsx; exact q hsx)
                      go_wp2_with fail
                      go_roundw
                      case rel => exact ⟨m + 1, false, by omega, by go_num, rfl, HN.out, hby'⟩
                      case measure => go_light; simp [intOf]; omega
                    · have HN : Hid (true = true ↔ HidTo (esM l) (m + 1) e) := iffT (HS.out.2 (.inr (by simpa using hsx)))
                      go_wp2_with fail
                      go_roundw
                      case rel => exact ⟨m + 1, true, by omega, by go_num, rfl, HN.out, hby'⟩
                      case measure => go_light; simp [intOf]; omega
                  · have HN : Hid (true = true ↔ HidTo (esM l) (m + 1) e) := iffT (HS.out.2 (.inl (HH.out.1 rfl)))
                    go_wp2_with fail
                    go_roundw
                    case rel => exact ⟨m + 1, true, by omega, by go_num, rfl, HN.out, hby'⟩
                    case measure => go_light; simp [intOf]; omega
                · obtain rfl : m = k := by omega
                  have HLm : Hid (OwnE wr w1.heap.size g cp L) := HL3.out.below hbm (by omega)
                  have HXm : Hid (EntsAt wr wi.heap.size 0 [e]) := HX3.out.below hbm (by omega)
                  have zmk : ¬ (m : Int) < (m : Int) := by omega
                  cases hd
                  · have HN : Hid (MrgTo (esM l) (inR lo hh hi) m (j + 1) (into L e)) := mrgTo_put HGd.out HK.out.2 HAt.out ⟨HIR.out.1, HIR.out.2, fun q => Bool.noConfusion (HH.out.2 q)⟩
                    obtain ⟨d0, d1, d2, d3, d4, d5⟩ := HXm.out 0 e rfl
                    simp only [Nat.zero_add, Nat.zero_mul] at d0 d1 d2 d3 d4 d5
                    go_wp2_with fail
                    refine (into_core g 0 cp L e _ HLm.out.at (by omega) (by omega)).mono ?_
                    rintro e' w5 ⟨g', cp', rfl, hO', hb5⟩
                    have HO' : Hid (OwnE w5 w1.heap.size g' cp' (into L e)) := hO'.mono (by omega)
                    have hb6 := hbm4.trans (hb5.mono (by omega))
                    clear hO' d0 d1 d2 d3 d4 d5
                    go_wp2_with fail
                    go_roundw
                    case rel => exact ⟨j + 1, g', cp', into L e, by omega, by go_num, rfl, HO'.out, HN.out, hb6⟩
                    case measure => go_light; simp [intOf]; omega
                  · have HN : Hid (MrgTo (esM l) (inR lo hh hi) m (j + 1) L) := mrgTo_skip HK.out.2 HAt.out (fun q => q.2.2 (HH.out.1 rfl))
                    go_wp2_with fail
                    go_roundw
                    case rel => exact ⟨j + 1, g, cp, L, by omega, by go_num, rfl, HLm.out, HN.out, hbm4⟩
                    case measure => go_light; simp [intOf]; omega
        · have HN : Hid (MrgTo (esM l) (inR lo hh hi) (k + 1) 0 L) := mrgTo_row HK.out.2 (es := r.es) (by rw [List.getElem?_map, HRr.out.1]; rfl) (by omega)
          have zj : ¬ (j : Int) < (r.es.length : Int) := by omega
          go_wp2_with fail
          go_roundw
          case rel => exact ⟨k + 1, g, cp, L, by omega, by go_num, rfl, HK.out.1, HN.out, hb⟩
          case measure => go_light; simp [intOf]; omega
    · have HKK : Hid (MrgOf (esM l) (inR lo hh hi) L) := by
        refine ⟨fun _ => mrg_of_to HK.out.2 (by simp; omega), fun h => absurd HGd.out h⟩
      have hbw : Below w.heap.size w wo := (k1.trans (hbA.mono (by omega))).trans (hb.mono (by omega))
      have HCo : Hid (OwnC wo w.heap.size (w.heap.size + 1) 0 []) := HCA.out.below hb (by omega)
      have zk : ¬ (k : Int) < (l.length : Int) := by omega
      go_wp2_with fail
      go_loopw [5, 14] (fun o i wr => ∃ (m g5 cp5 : Nat), m ≤ L.length ∧ i = .int .i64 m ∧ o = .slice (some ⟨g5, 0, none⟩) m cp5 ∧ OwnC wr w.heap.size g5 cp5 (L.take m) ∧ OwnE wr w1.heap.size g cp L ∧ Below w.heap.size w wr) (fun _ i _ => L.length - (intOf i).toNat)
      case atStart => exact ⟨0, _, 0, Nat.zero_le _, rfl, rfl, HCo.out, HK.out.1, hbw⟩
      case round =>
        obtain ⟨m, g5, cp5, hm, rfl, rfl, hC, hL, hbm⟩ := hrel
        have HM : Hid (OwnC wr w.heap.size g5 cp5 (L.take m) ∧ OwnE wr w1.heap.size g cp L) := ⟨hC, hL⟩
        have hg5 := hC.lt
        have hgl := hL.lt
        have hne := hC.ne_row hL
        have hsm := hbm.size
        have HTM : Hid (m = (L.take m).length) := by show m = (L.take m).length; rw [List.length_take]; omega
        clear hC hL
        by_cases hlt : m < L.length
        · obtain ⟨x, hx⟩ : ∃ x, L[m]? = some x := ⟨_, List.getElem?_eq_getElem hlt⟩
          have HX : Hid (L.take (m + 1) = L.take m ++ [x]) := by show L.take (m + 1) = L.take m ++ [x]; rw [List.take_add_one, hx]; rfl
          obtain ⟨c0, c1, c2, c3, c4, c5⟩ := HM.out.2.at m x hx
          simp only [Nat.zero_add, Nat.zero_mul] at c0 c1 c2 c3 c4 c5
          clear hx
          go_wp2_with fail
          refine (specCell_any x _).mono ?_
          rintro e' w3 ⟨rfl, hb3⟩
          have hs3 := hb3.size
          have HM3 : Hid (OwnC w3 w.heap.size g5 cp5 (L.take m) ∧ OwnE w3 w1.heap.size g cp L) := ⟨HM.out.1.below hb3 hg5.2, HM.out.2.below hb3 hgl.2⟩
          have hbm3 : Below w.heap.size w w3 := hbm.trans (hb3.mono (by omega))
          clear c0 c1 c2 c3 c4 c5 hb3
          go_wp2_with (at_builtin; refine wpList_append_cel _ rfl _ _ rfl w.heap.size g5 cp5 _ _ (L.take m) x rfl rfl HTM.out ?hO ?hc ?hl ?hb ?_)
          case hO => exact HM3.out.1.below ((Below.refl _ _).alloc (Nat.le_refl _) _) (by omega)
          case hc => exact cel_new w3 x
          case hl => rw [← HTM.out]; omega
          case hb => simp; omega
          intro g' cp' w' hO' hgr
          have HO' : Hid (OwnC w' w.heap.size g' cp' (L.take (m + 1))) := by show OwnC w' w.heap.size g' cp' (L.take (m + 1)); rw [HX.out]; exact hO'
          have hb' : Below w.heap.size w w' := (hbm3.alloc hbm3.size _).grown hgr (by simp; omega) (fun j hj => by cases hj; omega)
          have HL' : Hid (OwnE w' w1.heap.size g cp L) := World.ownsRow.kept (HM3.out.2.below ((Below.refl _ _).alloc (Nat.le_refl _) _) (by omega)) hgr (.inr (fun q => hne (Option.some.inj q).symm))
          clear hO' hgr
          go_wp2_with fail
          go_roundw
          case rel => exact ⟨m + 1, g', cp', by omega, by go_num, rfl, HO'.out, HL'.out, hb'⟩
          case measure => go_light; simp [intOf]; omega
        · have HT : Hid (L.take m = L) := List.take_of_length_le (by omega)
          go_wp2_with fail
          go_ret
          refine ⟨g5, cp5, L, ?_, ?_, hbm, hLl, HKK.out⟩
          · have e1 : m = L.length := by omega
            show Ending.returned (Value.slice (some ⟨g5, 0, none⟩) m cp5) = _
            rw [e1]
          · have h := HM.out.1
            rw [HT.out] at h
            exact h
end Go.Proofs.Ytnncedndlhfdkac

/-
  The marks, looked for.
-/
namespace Go.Proofs.Ytnncedndlhfdkac
open Go.ChangeShapes Go.WideShapes Go.ChangeAt Go.RowKit Go.Deep
set_option linter.unusedVariables false

theorem markText_in (W0 : World) (a : Int) (w : World) (hb : Below W0.heap.size W0 w) (h0 : 0 < a) (h1 : a ≤ 2 ^ 40) :
    Calls Try.prog 47 #[.int .i64 a] w fun e w' => e = .returned (.string (mText a.toNat)) ∧ Below W0.heap.size W0 w' := by
  refine (markText_any a w h0 h1).mono ?_
  rintro e w' ⟨he, hb'⟩
  exact ⟨he, hb.trans (hb'.mono hb.size)⟩

set_option maxHeartbeats 2000000 in
theorem heldEntryS_core (b off cap : Nat) (es : List Ent) (k : Int) (w : World) (hE : EntsAt w b off es) (hmk : marked k es es.length) (hB : b < w.heap.size) (h0 : 0 < k) (h1 : k ≤ 2 ^ 30) (hn : es.length ≤ 1048576) :
    Calls Try.prog 51 #[.slice (some ⟨b, off, none⟩) es.length cap, .int .i64 k] w fun e w' =>
      e = .returned (.int .i64 (k + es.length * 6)) ∧ Below w.heap.size w w' := by
  have HE : Hid (EntsAt w b off es ∧ marked k es es.length) := ⟨hE, hmk⟩
  clear hE hmk
  go_enter Try.func51, Try.ntmps51
  go_wp2
  go_loopw [1, 5] (fun c i wr => ∃ (m : Nat) (a : Int), m ≤ es.length ∧ i = .int .i64 m ∧ c = .int .i64 a ∧ a = k + m * 6 ∧ Below w.heap.size w wr) (fun _ i _ => es.length - (intOf i).toNat)
  case atStart => exact ⟨0, k, Nat.zero_le _, rfl, rfl, by simp, Below.refl _ _⟩
  case round =>
    obtain ⟨m, a, hm, rfl, rfl, ha, hb⟩ := hrel
    have ha0 : 0 < a := by omega
    have ha1 : a ≤ 2 ^ 31 := by omega
    have HA : Hid (a = k + m * 6) := ha
    clear ha
    have hs := hb.size
    by_cases hlt : m < es.length
    · have he : es[m]? = some (mEnt a) := by rw [HA.out]; exact HE.out.2 m hlt
      have HM : Hid (es[m]? = some (mEnt a)) := he
      clear he
      have z2 : (m : Int) < (es.length : Int) := by omega
      have hce : ∀ wx, Below w.heap.size w wx → wx.cell? ⟨b, off + m * 6, none⟩ = some (.string (mText a.toNat)) ∧ wx.cell? ⟨b, off + m * 6 + 1, none⟩ = some (.string (mText (a + 1).toNat)) ∧ wx.cell? ⟨b, off + m * 6 + 2, none⟩ = some (.string (mText (a + 1 + 1).toNat)) ∧
          wx.cell? ⟨b, off + m * 6 + 3, none⟩ = some (.int .u64 (a + 1 + 1 + 1)) ∧ wx.cell? ⟨b, off + m * 6 + 4, none⟩ = some (.int .i64 (a + 1 + 1 + 1 + 1)) ∧ wx.cell? ⟨b, off + m * 6 + 5, none⟩ = some (.string (mText (a + 1 + 1 + 1 + 1 + 1).toNat)) :=
        fun wx hx => (HE.out.1.below hx hB) m _ HM.out
      have HC : Hid (∀ wx, Below w.heap.size w wx → wx.cell? ⟨b, off + m * 6, none⟩ = some (.string (mText a.toNat)) ∧ wx.cell? ⟨b, off + m * 6 + 1, none⟩ = some (.string (mText (a + 1).toNat)) ∧ wx.cell? ⟨b, off + m * 6 + 2, none⟩ = some (.string (mText (a + 1 + 1).toNat)) ∧
          wx.cell? ⟨b, off + m * 6 + 3, none⟩ = some (.int .u64 (a + 1 + 1 + 1)) ∧ wx.cell? ⟨b, off + m * 6 + 4, none⟩ = some (.int .i64 (a + 1 + 1 + 1 + 1)) ∧ wx.cell? ⟨b, off + m * 6 + 5, none⟩ = some (.string (mText (a + 1 + 1 + 1 + 1 + 1).toNat))) := hce
      clear hce
      have c1 := (HC.out wr hb).1
      go_upto_region 4 with fail
      go_cut [19] (fun s wx => s = .bool false ∧ Below w.heap.size w wx)
      case first =>
        go_region_with (go_at_call 47; refine (markText_in w _ _ ?hB (by omega) (by omega)).mono ?_; (case hB => (repeat (first | assumption | refine Below.drew ?_))); rintro e' w' ⟨rfl, hbb⟩; have cx := (HC.out w' hbb).1)
        all_goals go_wp2_with fail
        all_goals go_meet
        all_goals exact ⟨rfl, by assumption⟩
      case rest =>
      obtain ⟨rfl, h2⟩ := hcut
      clear c1
      obtain ⟨wa, rfl⟩ : ∃ wa : World, wa = wc := ⟨_, rfl⟩
      have c2 := (HC.out wa h2).2.1
      go_upto_region 7 with fail
      go_cut [29] (fun s wx => s = .bool false ∧ Below w.heap.size w wx)
      case first =>
        go_region_with (go_at_call 47; refine (markText_in w _ _ ?hB (by omega) (by omega)).mono ?_; (case hB => (repeat (first | assumption | refine Below.drew ?_))); rintro e' w' ⟨rfl, hbb⟩; have cx := (HC.out w' hbb).2.1)
        all_goals go_wp2_with fail
        all_goals go_meet
        all_goals exact ⟨rfl, by assumption⟩
      case rest =>
      obtain ⟨rfl, h3⟩ := hcut
      clear c2
      obtain ⟨wb, rfl⟩ : ∃ wb : World, wb = wc := ⟨_, rfl⟩
      have c3 := (HC.out wb h3).2.2.1
      go_upto_region 10 with fail
      go_cut [39] (fun s wx => s = .bool false ∧ Below w.heap.size w wx)
      case first =>
        go_region_with (go_at_call 47; refine (markText_in w _ _ ?hB (by omega) (by omega)).mono ?_; (case hB => (repeat (first | assumption | refine Below.drew ?_))); rintro e' w' ⟨rfl, hbb⟩; have cx := (HC.out w' hbb).2.2.1)
        all_goals go_wp2_with fail
        all_goals go_meet
        all_goals exact ⟨rfl, by assumption⟩
      case rest =>
      obtain ⟨rfl, h4⟩ := hcut
      clear c3
      obtain ⟨wd, rfl⟩ : ∃ wd : World, wd = wc := ⟨_, rfl⟩
      have c4 := (HC.out wd h4).2.2.2.1
      have c5 := (HC.out wd h4).2.2.2.2.1
      have c6 := (HC.out wd h4).2.2.2.2.2
      go_upto_region 19 with fail
      go_cut [68] (fun s wx => s = .bool false ∧ Below w.heap.size w wx)
      case first =>
        go_region_with (go_at_call 47; refine (markText_in w _ _ ?hB (by omega) (by omega)).mono ?_; (case hB => (repeat (first | assumption | refine Below.drew ?_))); rintro e' w' ⟨rfl, hbb⟩; have cx := (HC.out w' hbb).2.2.2.2.2)
        all_goals go_wp2_with fail
        all_goals go_meet
        all_goals exact ⟨rfl, by assumption⟩
      case rest =>
      obtain ⟨rfl, h5⟩ := hcut
      clear c4 c5 c6
      go_wp2_with fail
      refine ⟨⟨m + 1, a + 1 + 1 + 1 + 1 + 1 + 1, by omega, by go_num, rfl, ?_, h5⟩, ?_⟩
      · go_light
        have := HA.out
        omega
      · go_light
        simp [intOf]; omega
    · go_wp2_with fail
      go_ret
      have e1 : m = es.length := by omega
      refine ⟨?_, hb⟩
      rw [HA.out, e1]; rfl
end Go.Proofs.Ytnncedndlhfdkac

/-
  The marks that a law lays into rows of cells and looks for.
-/
namespace Go.Proofs.Ytnncedndlhfdkac
open Go.ChangeShapes Go.WideShapes Go.ChangeAt Go.RowKit Go.Deep
set_option linter.unusedVariables false
set_option linter.unusedSimpArgs false

/-- The cell that the marks from 'k' on make. -/
def mCel (k : Int) : Ent := ⟨mText k.toNat, mText (k + 1).toNat, mText (k + 1 + 1).toNat, k + 1 + 1 + 1, 0, mText (k + 1 + 1 + 1 + 1).toNat⟩
def markedC (k : Int) (es : List Ent) (i : Nat) : Prop := ∀ j : Nat, j < i → (es[j]?.map Ent.five) = some (mCel (k + j * 5)).five
theorem markedC_set {k : Int} {fs : List Ent} {m : Nat} {e : Ent} (h : markedC k fs m) (hm : m < fs.length) (he : e.five = (mCel (k + m * 5)).five) : markedC k (fs.set m e) (m + 1) := by
  intro j hj
  by_cases e1 : j = m
  · subst e1; simp [hm]; simpa using he
  · rw [List.getElem?_set_ne (by omega)]; exact h j (by omega)

set_option maxHeartbeats 1000000 in
theorem markCellS_core (base g cap : Nat) (es : List Ent) (k : Int) (w : World) (hO : OwnC w base g cap es) (h0 : 0 < k) (h1 : k ≤ 2 ^ 30) (hn : es.length ≤ 1048576) :
    Calls Try.prog 16 #[.slice (some ⟨g, 0, none⟩) es.length cap, .int .i64 k] w fun e w' =>
      ∃ fs, e = .returned (.int .i64 (k + es.length * 5)) ∧ OwnC w' base g cap fs ∧ fs.length = es.length ∧ markedC k fs es.length ∧ w.grownBy w' (some g) := by
  have HO : Hid (OwnC w base g cap es) := hO
  clear hO
  go_enter Try.func16, Try.ntmps16
  go_wp2
  go_loopw [1, 5] (fun c i wr => ∃ (m : Nat) (a : Int) (fs : List Ent), m ≤ es.length ∧ i = .int .i64 m ∧ c = .int .i64 a ∧ a = k + m * 5 ∧ OwnC wr base g cap fs ∧ fs.length = es.length ∧ markedC k fs m ∧ w.grownBy wr (some g)) (fun _ i _ => es.length - (intOf i).toNat)
  case atStart => exact ⟨0, k, es, Nat.zero_le _, rfl, rfl, by simp, HO.out, rfl, fun j hj => by omega, grown_of_below (Below.refl _ _) _⟩
  case round =>
    obtain ⟨m, a, fs, hm, rfl, rfl, ha, hO, hfl, hmk, hgr⟩ := hrel
    have HR : Hid (a = k + m * 5 ∧ OwnC wr base g cap fs ∧ fs.length = es.length ∧ markedC k fs m) := ⟨ha, hO, hfl, hmk⟩
    have ha0 : 0 < a := by omega
    have ha1 : a ≤ 2 ^ 31 := by omega
    have HG : Hid (w.grownBy wr (some g)) := hgr
    clear hO hfl hmk ha hgr
    by_cases hlt : m < es.length
    · obtain ⟨f, hf⟩ : ∃ f, fs[m]? = some f := ⟨_, List.getElem?_eq_getElem (by rw [HR.out.2.2.1]; exact hlt)⟩
      have HF : Hid (fs[m]? = some f ∧ m < fs.length) := ⟨hf, by rw [HR.out.2.2.1]; exact hlt⟩
      clear hf
      go_wp2_with fail
      refine (markText_any a _ (by omega) (by omega)).mono ?_
      rintro e w1 ⟨rfl, hb1⟩
      have hO1 := HR.out.2.1.below hb1 HR.out.2.1.lt.2
      have c1 := (hO1.at m f HF.out.1).1
      simp only [Nat.zero_add] at c1
      have z1 := fun j => World.ownsRow.frozenAt hO1 j
      have hO1' := hO1.set m 0 f { f with row := mText a.toNat } (.string (mText a.toNat)) HF.out.1 (by omega) rfl
      have H1 : Hid (OwnC (w1.setCell ⟨g, m * 5, none⟩ (.string (mText a.toNat))) base g cap (fs.set m { f with row := mText a.toNat }) ∧ w.grownBy (w1.setCell ⟨g, m * 5, none⟩ (.string (mText a.toNat))) (some g)) := ⟨hO1', (HG.out.trans (grown_of_below hb1 _)).trans (grown_set _ _ _ _)⟩
      clear hO1 hO1' hb1
      go_wp2_with fail
      refine (markText_any (a + 1) _ (by omega) (by omega)).mono ?_
      rintro e w2 ⟨rfl, hb2⟩
      have hO2 := H1.out.1.below hb2 H1.out.1.lt.2
      have c2 := (hO2.at m _ (by simp [HF.out.2]; rfl)).2.1
      simp only [Nat.zero_add] at c2
      have z2 := fun j => World.ownsRow.frozenAt hO2 j
      have H2 : Hid (OwnC (w2.setCell ⟨g, m * 5 + 1, none⟩ (.string (mText (a + 1).toNat))) base g cap (fs.set m { f with row := mText a.toNat, fam := mText (a + 1).toNat }) ∧ w.grownBy (w2.setCell ⟨g, m * 5 + 1, none⟩ (.string (mText (a + 1).toNat))) (some g)) :=
        ⟨hO2.upd HF.out.2 (by omega) rfl, (H1.out.2.trans (grown_of_below hb2 _)).trans (grown_set _ _ _ _)⟩
      clear hO2 hb2 c1 z1
      go_wp2_with fail
      refine (markText_any (a + 1 + 1) _ (by omega) (by omega)).mono ?_
      rintro e w3 ⟨rfl, hb3⟩
      have hO3 := H2.out.1.below hb3 H2.out.1.lt.2
      obtain ⟨_, _, c3, c4, _⟩ := hO3.at m _ (by simp [HF.out.2]; rfl)
      simp only [Nat.zero_add] at c3 c4
      have z3 := fun j => World.ownsRow.frozenAt hO3 j
      have H3 : Hid (OwnC w3 base g cap (fs.set m { f with row := mText a.toNat, fam := mText (a + 1).toNat }) ∧ w.grownBy w3 (some g)) := ⟨hO3, H2.out.2.trans (grown_of_below hb3 _)⟩
      clear hO3 hb3 c2 z2
      go_wp2_with fail
      refine (markText_any (a + 1 + 1 + 1 + 1) _ (by omega) (by omega)).mono ?_
      rintro e w4 ⟨rfl, hb4⟩
      have hO3 := (H3.out.1.upd (j := 2) (u := .string (mText (a + 1 + 1).toNat)) (f' := { f with row := mText a.toNat, fam := mText (a + 1).toNat, qual := mText (a + 1 + 1).toNat }) HF.out.2 (by omega) rfl).upd (j := 3) (u := .int .u64 (a + 1 + 1 + 1))
        (f' := { f with row := mText a.toNat, fam := mText (a + 1).toNat, qual := mText (a + 1 + 1).toNat, ts := a + 1 + 1 + 1 }) HF.out.2 (by omega) rfl
      have hO4 := hO3.below hb4 hO3.lt.2
      have c6 := (hO4.at m _ (by simp [HF.out.2]; rfl)).2.2.2.2
      simp only [Nat.zero_add] at c6
      have z4 := fun j => World.ownsRow.frozenAt hO4 j
      have H4 : Hid (OwnC (w4.setCell ⟨g, m * 5 + 4, none⟩ (.string (mText (a + 1 + 1 + 1 + 1).toNat))) base g cap (fs.set m (mCel a)) ∧ w.grownBy (w4.setCell ⟨g, m * 5 + 4, none⟩ (.string (mText (a + 1 + 1 + 1 + 1).toNat))) (some g)) :=
        ⟨hO4.upd HF.out.2 (by omega) rfl, (((((H3.out.2.trans (grown_set _ _ _ _)).trans (grown_set _ _ _ _))).trans (grown_of_below hb4 _)).trans (grown_set _ _ _ _))⟩
      have HE : Hid (a = k + m * 5) := HR.out.1
      clear hO3 hO4 hb4 c3 c4 z3
      go_wp2_with fail
      refine ⟨⟨m + 1, a + 1 + 1 + 1 + 1 + 1, fs.set m (mCel a), by omega, by go_num, rfl, ?_, H4.out.1, by rw [List.length_set]; exact HR.out.2.2.1, ?_, H4.out.2⟩, ?_⟩
      · go_light
        have := HE.out
        omega
      · go_light
        exact markedC_set HR.out.2.2.2 HF.out.2 (by rw [← HE.out])
      · go_light
        simp [intOf]; omega
    · go_wp2_with fail
      go_ret
      have e1 : m = es.length := by omega
      refine ⟨fs, ?_, HR.out.2.1, HR.out.2.2.1, ?_, HG.out⟩
      · rw [HR.out.1, e1]; rfl
      · rw [← e1]; exact HR.out.2.2.2

set_option maxHeartbeats 2000000 in
theorem heldCellS_core (b off cap : Nat) (es : List Ent) (k : Int) (w : World) (hE : CelsAt w b off es) (hmk : markedC k es es.length) (hB : b < w.heap.size) (h0 : 0 < k) (h1 : k ≤ 2 ^ 30) (hn : es.length ≤ 1048576) :
    Calls Try.prog 17 #[.slice (some ⟨b, off, none⟩) es.length cap, .int .i64 k] w fun e w' =>
      e = .returned (.int .i64 (k + es.length * 5)) ∧ Below w.heap.size w w' := by
  have HE : Hid (CelsAt w b off es ∧ markedC k es es.length) := ⟨hE, hmk⟩
  clear hE hmk
  go_enter Try.func17, Try.ntmps17
  go_wp2
  go_loopw [1, 5] (fun c i wr => ∃ (m : Nat) (a : Int), m ≤ es.length ∧ i = .int .i64 m ∧ c = .int .i64 a ∧ a = k + m * 5 ∧ Below w.heap.size w wr) (fun _ i _ => es.length - (intOf i).toNat)
  case atStart => exact ⟨0, k, Nat.zero_le _, rfl, rfl, by simp, Below.refl _ _⟩
  case round =>
    obtain ⟨m, a, hm, rfl, rfl, ha, hb⟩ := hrel
    have ha0 : 0 < a := by omega
    have ha1 : a ≤ 2 ^ 31 := by omega
    have HA : Hid (a = k + m * 5) := ha
    clear ha
    have hs := hb.size
    by_cases hlt : m < es.length
    · obtain ⟨f, he⟩ : ∃ f, es[m]? = some f := ⟨_, List.getElem?_eq_getElem hlt⟩
      have hf : f.five = (mCel a).five := by
        have h := HE.out.2 m hlt
        rw [he, ← HA.out] at h
        simpa using h
      simp only [Ent.five, List.cons.injEq, Value.string.injEq, Value.int.injEq, and_true, true_and] at hf
      obtain ⟨f1, f2, f3, f4, f5⟩ := hf
      have HM : Hid (es[m]? = some f) := he
      clear he
      have z2 : (m : Int) < (es.length : Int) := by omega
      have hce : ∀ wx, Below w.heap.size w wx → wx.cell? ⟨b, off + m * 5, none⟩ = some (.string (mText a.toNat)) ∧ wx.cell? ⟨b, off + m * 5 + 1, none⟩ = some (.string (mText (a + 1).toNat)) ∧ wx.cell? ⟨b, off + m * 5 + 2, none⟩ = some (.string (mText (a + 1 + 1).toNat)) ∧
          wx.cell? ⟨b, off + m * 5 + 3, none⟩ = some (.int .u64 (a + 1 + 1 + 1)) ∧ wx.cell? ⟨b, off + m * 5 + 4, none⟩ = some (.string (mText (a + 1 + 1 + 1 + 1).toNat)) := by
        intro wx hx
        have h := (HE.out.1.below hx hB) m _ HM.out
        rw [f1, f2, f3, f4, f5] at h
        exact h
      have HC : Hid (∀ wx, Below w.heap.size w wx → wx.cell? ⟨b, off + m * 5, none⟩ = some (.string (mText a.toNat)) ∧ wx.cell? ⟨b, off + m * 5 + 1, none⟩ = some (.string (mText (a + 1).toNat)) ∧ wx.cell? ⟨b, off + m * 5 + 2, none⟩ = some (.string (mText (a + 1 + 1).toNat)) ∧
          wx.cell? ⟨b, off + m * 5 + 3, none⟩ = some (.int .u64 (a + 1 + 1 + 1)) ∧ wx.cell? ⟨b, off + m * 5 + 4, none⟩ = some (.string (mText (a + 1 + 1 + 1 + 1).toNat))) := hce
      clear f1 f2 f3 f4 f5
      clear hce
      have c1 := (HC.out wr hb).1
      go_upto_region 4 with fail
      go_cut [19] (fun s wx => s = .bool false ∧ Below w.heap.size w wx)
      case first =>
        go_region_with (go_at_call 47; refine (markText_in w _ _ ?hB (by omega) (by omega)).mono ?_; (case hB => (repeat (first | assumption | refine Below.drew ?_))); rintro e' w' ⟨rfl, hbb⟩; have cx := (HC.out w' hbb).1)
        all_goals go_wp2_with fail
        all_goals go_meet
        all_goals exact ⟨rfl, by assumption⟩
      case rest =>
      obtain ⟨rfl, h2⟩ := hcut
      clear c1
      obtain ⟨wa, rfl⟩ : ∃ wa : World, wa = wc := ⟨_, rfl⟩
      have c2 := (HC.out wa h2).2.1
      go_upto_region 7 with fail
      go_cut [29] (fun s wx => s = .bool false ∧ Below w.heap.size w wx)
      case first =>
        go_region_with (go_at_call 47; refine (markText_in w _ _ ?hB (by omega) (by omega)).mono ?_; (case hB => (repeat (first | assumption | refine Below.drew ?_))); rintro e' w' ⟨rfl, hbb⟩; have cx := (HC.out w' hbb).2.1)
        all_goals go_wp2_with fail
        all_goals go_meet
        all_goals exact ⟨rfl, by assumption⟩
      case rest =>
      obtain ⟨rfl, h3⟩ := hcut
      clear c2
      obtain ⟨wb, rfl⟩ : ∃ wb : World, wb = wc := ⟨_, rfl⟩
      have c3 := (HC.out wb h3).2.2.1
      go_upto_region 10 with fail
      go_cut [39] (fun s wx => s = .bool false ∧ Below w.heap.size w wx)
      case first =>
        go_region_with (go_at_call 47; refine (markText_in w _ _ ?hB (by omega) (by omega)).mono ?_; (case hB => (repeat (first | assumption | refine Below.drew ?_))); rintro e' w' ⟨rfl, hbb⟩; have cx := (HC.out w' hbb).2.2.1)
        all_goals go_wp2_with fail
        all_goals go_meet
        all_goals exact ⟨rfl, by assumption⟩
      case rest =>
      obtain ⟨rfl, h4⟩ := hcut
      clear c3
      obtain ⟨wd, rfl⟩ : ∃ wd : World, wd = wc := ⟨_, rfl⟩
      have c4 := (HC.out wd h4).2.2.2.1
      have c5 := (HC.out wd h4).2.2.2.2
      go_upto_region 16 with fail
      go_cut [59] (fun s wx => s = .bool false ∧ Below w.heap.size w wx)
      case first =>
        go_region_with (go_at_call 47; refine (markText_in w _ _ ?hB (by omega) (by omega)).mono ?_; (case hB => (repeat (first | assumption | refine Below.drew ?_))); rintro e' w' ⟨rfl, hbb⟩; have cx := (HC.out w' hbb).2.2.2.2)
        all_goals go_wp2_with fail
        all_goals go_meet
        all_goals exact ⟨rfl, by assumption⟩
      case rest =>
      obtain ⟨rfl, h5⟩ := hcut
      clear c4 c5
      go_wp2_with fail
      refine ⟨⟨m + 1, a + 1 + 1 + 1 + 1 + 1, by omega, by go_num, rfl, ?_, h5⟩, ?_⟩
      · go_light
        have := HA.out
        omega
      · go_light
        simp [intOf]; omega
    · go_wp2_with fail
      go_ret
      have e1 : m = es.length := by omega
      refine ⟨?_, hb⟩
      rw [HA.out, e1]; rfl
end Go.Proofs.Ytnncedndlhfdkac

/-
  eqRunS, markRunS over runs of the call's own.
-/
namespace Go.Proofs.Ytnncedndlhfdkac
open Go.ChangeShapes Go.WideShapes Go.ChangeAt Go.RowKit Go.Deep
set_option linter.unusedVariables false
set_option linter.unusedSimpArgs false
set_option maxRecDepth 100000

def RowsOf (l : List (Nat × List Ent)) (k : Nat) : Prop := ∃ p ∈ l, k = p.1
set_option maxHeartbeats 2000000 in
theorem markRunS_core (base g : Nat) (l : List (Nat × List Ent)) (w : World) (h : OwnRuns w base g l) (hn : l.length + totL l ≤ 1048576) :
    Calls Try.prog 15 #[.slice (some ⟨g, 0, none⟩) l.length l.length, .int .i64 1] w fun e w' =>
      ∃ a : Int, e = .returned (.int .i64 a) ∧ 0 ≤ a ∧ Chg (RowsOf l) w w' := by
  have HO : Hid (OwnRuns w base g l) := h
  clear h
  go_enter Try.func15, Try.ntmps15
  go_wp2_with fail
  go_loopw [1, 5] (fun c i wr => ∃ (m : Nat) (a : Int), m ≤ l.length ∧ i = .int .i64 m ∧ c = .int .i64 a ∧ 0 < a ∧ a ≤ 1 + totL (l.take m) * 6 ∧ OwnR wr base g (usOf l) ∧ (∀ p ∈ l.drop m, OwnE wr base p.1 p.2.length p.2) ∧ Chg (RowsOf l) w wr) (fun _ i _ => l.length - (intOf i).toNat)
  case atStart => exact ⟨0, 1, Nat.zero_le _, rfl, rfl, by omega, by simp [totL], HO.out.row, fun p hp => HO.out.rows.2 p (by simpa using hp), Chg.refl _ _⟩
  case round =>
    obtain ⟨m, a, hm, rfl, rfl, ha0, ha1, hR, hE, hC⟩ := hrel
    have HR : Hid (OwnR wr base g (usOf l) ∧ (∀ p ∈ l.drop m, OwnE wr base p.1 p.2.length p.2) ∧ Chg (RowsOf l) w wr) := ⟨hR, hE, hC⟩
    have HA : Hid (a ≤ 1 + totL (l.take m) * 6) := ha1
    have hab : a ≤ 2 ^ 30 := by have := totL_le l m; omega
    clear hR hE hC ha1
    by_cases hlt : m < l.length
    · obtain ⟨p, hp⟩ : ∃ p, l[m]? = some p := ⟨_, List.getElem?_eq_getElem hlt⟩
      have c0 := HR.out.1.cell (usOf_get hp)
      have hpl : p.2.length ≤ 1048576 := by have := totL_take hp; have := totL_le l (m + 1); omega
      have hdr : l.drop m = p :: l.drop (m + 1) := by
        obtain ⟨h1, h2⟩ := List.getElem?_eq_some_iff.1 hp
        rw [← h2]; exact List.drop_eq_getElem_cons h1
      have HP : Hid (l[m]? = some p ∧ l.drop m = p :: l.drop (m + 1)) := ⟨hp, hdr⟩
      have HPo : Hid (OwnE wr base p.1 p.2.length p.2) := HR.out.2.1 p (by rw [hdr]; simp)
      clear hp hdr
      have zm : (m : Int) < (l.length : Int) := by omega
      go_wp2_with fail
      refine (markEntryS_core base p.1 p.2.length p.2 a _ HPo.out ha0 hab hpl).mono ?_
      rintro e w1 ⟨fs, rfl, _, _, _, hg1⟩
      have hlg := List.mem_of_getElem? HP.out.1
      have hpw : ∀ q ∈ l.drop (m + 1), q.1 ≠ p.1 := by
        have h1 : (l.drop m).Pairwise (fun p q => p.1 < q.1) := HO.out.rows.1.drop
        rw [HP.out.2] at h1
        intro q hq
        have := (List.pairwise_cons.1 h1).1 q hq
        omega
      have HN : Hid (OwnR w1 base g (usOf l) ∧ (∀ q ∈ l.drop (m + 1), OwnE w1 base q.1 q.2.length q.2) ∧ Chg (RowsOf l) w w1) := by
        refine ⟨World.ownsRow.kept HR.out.1 hg1 (.inr (fun q => ?_)), fun q hq => World.ownsRow.kept (HR.out.2.1 q (by rw [HP.out.2]; exact List.mem_cons_of_mem _ hq)) hg1 (.inr (fun x => hpw q hq (Option.some.inj x))), HR.out.2.2.trans (Chg.of_grown hg1 (fun k hk => by cases hk; exact ⟨p, hlg, rfl⟩))⟩
        have h1 := HO.out.ne p hlg
        have h2 : g = p.1 := Option.some.inj q
        omega
      have HA2 : Hid (a + p.2.length * 6 ≤ 1 + totL (l.take (m + 1)) * 6) := by
        have := HA.out
        have := totL_take HP.out.1
        show a + p.2.length * 6 ≤ 1 + totL (l.take (m + 1)) * 6
        omega
      clear hg1 hpw hlg c0
      go_wp2_with fail
      go_roundw
      case rel => exact ⟨m + 1, a + p.2.length * 6, by omega, by go_num, rfl, by omega, HA2.out, HN.out.1, HN.out.2.1, HN.out.2.2⟩
      case measure => go_light; simp [intOf]; omega
    · have zm : ¬ (m : Int) < (l.length : Int) := by omega
      go_wp2_with fail
      go_ret
      exact ⟨a, rfl, by omega, HR.out.2.2⟩
end Go.Proofs.Ytnncedndlhfdkac

/-
  The merge over runs of the call's own.
-/
namespace Go.Proofs.Ytnncedndlhfdkac
open Go.ChangeShapes Go.WideShapes Go.ChangeAt Go.RowKit Go.Deep
set_option linter.unusedVariables false
set_option linter.unusedSimpArgs false
set_option maxRecDepth 100000

theorem specMerge_own (base g : Nat) (l : List (Nat × List Ent)) (lo hi : ByteArray) (hh : Bool) (w : World) (h : OwnRuns w base g l) (ho : okL l) (hn : l.length ≤ 1048576) :
    Calls Try.prog 9 #[.slice (some ⟨g, 0, none⟩) l.length l.length, .agg #[.string lo, .bool hh, .string hi]] w fun r w' =>
      ∃ (g cp : Nat) (L : List Ent), r = .returned (.slice (some ⟨g, 0, none⟩) L.length cp) ∧ OwnC w' w.heap.size g cp L ∧ Below w.heap.size w w' ∧ L.length ≤ 500000 ∧ MrgOf (l.map Prod.snd) (inR lo hh hi) L := by
  have := specMerge_core g 0 l.length (rmsOf l) lo hi hh w h.at (okM_of ho) h.lt.2 (by rw [rmsOf_len]; exact hn)
  rw [rmsOf_len, esM_rms] at this
  exact this
theorem implMerge_own (base g : Nat) (l : List (Nat × List Ent)) (lo hi : ByteArray) (hh : Bool) (w : World) (h : OwnRuns w base g l) (ho : okL l) (hn : l.length ≤ 1048576) :
    Calls Try.prog 12 #[.slice (some ⟨g, 0, none⟩) l.length l.length, .agg #[.string lo, .bool hh, .string hi]] w fun r w' =>
      ∃ (g cp : Nat) (L : List Ent), r = .returned (.slice (some ⟨g, 0, none⟩) L.length cp) ∧ OwnC w' w.heap.size g cp L ∧ Below w.heap.size w w' ∧ MrgOf (l.map Prod.snd) (inR lo hh hi) L := by
  have := implMerge_core g 0 l.length (rmsOf l) lo hi hh w h.at (okM_of ho) h.lt.2 (by rw [rmsOf_len]; exact hn)
  rw [rmsOf_len, esM_rms] at this
  exact this
theorem OwnC.chg {T : Nat → Prop} {w w' : World} {base g cp : Nat} {L : List Ent} (h : OwnC w base g cp L) (hb : Chg T w w') (hn : ¬ T g) : OwnC w' base g cp L := own_chg h hb (fun k q => by simp [Value.ownBlock] at q; subst q; exact hn)
end Go.Proofs.Ytnncedndlhfdkac

/-
  The law FnExactMergeRuns.
-/
namespace Go.Proofs.Ytnncedndlhfdkac.exMergeRuns
open Go.ChangeShapes Go.WideShapes Go.ChangeAt Go.RowKit Go.Deep
set_option linter.unusedVariables false
set_option linter.unusedSimpArgs false
set_option maxRecDepth 100000

theorem own : ownKnob Try.prog.godebug = none := by kernel_rfl
theorem laidOut : laidOutB Try.prog = true := by kernel_rfl

set_option maxHeartbeats 8000000 in
theorem walk (v : Value) (rs : List Rn) (lo hi : ByteArray) (hh : Bool) (w : World) (h : InRuns w v rs) (hok : okR rs) (hlo : lo.size ≤ maxLen) (hhi : hi.size ≤ maxLen) :
    Calls Try.prog 3 #[v, .agg #[.string lo, .bool hh, .string hi]] w fun e w' => e = .returned (.bool true) ∧ Below w.heap.size w w' := by
  obtain ⟨W0, hW0⟩ : ∃ W0 : World, W0 = w.alloc (Obj.cells #[.string lo, .bool hh, .string hi] 24) := ⟨_, rfl⟩
  have hb0 : Below w.heap.size w W0 := by rw [hW0]; exact (Below.refl _ _).alloc (Nat.le_refl _) _
  have hz0 : W0.heap.size = w.heap.size + 1 := by rw [hW0]; simp
  have HC0 : Hid (W0.cell? ⟨w.heap.size, 0, none⟩ = some (.string lo) ∧ W0.cell? ⟨w.heap.size, 1, none⟩ = some (.bool hh) ∧ W0.cell? ⟨w.heap.size, 2, none⟩ = some (.string hi)) := by
    refine ⟨?_, ?_, ?_⟩ <;> (rw [hW0]; simp)
  have HRg : Hid (∀ wx, Below W0.heap.size W0 wx → wx.cell? ⟨w.heap.size, 0, none⟩ = some (.string lo) ∧ wx.cell? ⟨w.heap.size, 1, none⟩ = some (.bool hh) ∧ wx.cell? ⟨w.heap.size, 2, none⟩ = some (.string hi)) := by
    intro wx hx
    refine ⟨?_, ?_, ?_⟩
    · rw [hx.cell (p := ⟨w.heap.size, 0, none⟩) (by show w.heap.size < W0.heap.size; omega)]; exact HC0.out.1
    · rw [hx.cell (p := ⟨w.heap.size, 1, none⟩) (by show w.heap.size < W0.heap.size; omega)]; exact HC0.out.2.1
    · rw [hx.cell (p := ⟨w.heap.size, 2, none⟩) (by show w.heap.size < W0.heap.size; omega)]; exact HC0.out.2.2
  have HE0 : Hid (InRuns W0 v rs) := h.below hb0
  have HO : Hid (okR rs) := hok
  clear h hok HC0
  go_enter Try.func3, Try.ntmps3
  go_wp2_with fail
  rw [← hW0]
  clear hW0
  refine (szRunS_any v rs _ _ HE0.out HO.out (by omega) (by omega)).mono ?_
  rintro e w1 ⟨x, rfl, hx, hb1⟩
  have hs1 := hb1.size
  by_cases hx0 : x < 0
  · clear hx
    go_wp2_with fail
    go_ret
    exact ⟨rfl, hb0.trans (hb1.mono (by omega))⟩
  have hn : rs.length + tot rs ≤ 1048576 := by omega
  have hx1 : x ≤ 1048576 := by omega
  have hx2 : 0 ≤ x := by omega
  clear hx
  obtain ⟨q0, q1, q2⟩ := HRg.out w1 hb1
  go_wp2_with fail
  refine (szRange_core lo hi hh _ _ hlo hhi (by omega) (by omega)).mono ?_
  rintro e w2 ⟨y, rfl, hy, hb2⟩
  have hs2 := hb2.size
  have k2 : Below W0.heap.size W0 w2 := hb1.trans (hb2.mono (by omega))
  by_cases hy0 : y < 0
  · clear hy
    go_wp2_with fail
    go_ret
    exact ⟨rfl, hb0.trans (k2.mono (by omega))⟩
  have hy1 : 0 ≤ y := by omega
  clear hy q0 q1 q2
  have HE2 : Hid (InRuns w2 v rs) := HE0.out.below k2
  obtain ⟨q0, q1, q2⟩ := HRg.out w2 k2
  go_upto_region 8 with fail
  go_region_held3 (fun w' => w'.cell? ⟨w.heap.size, 0, none⟩ = some (.string lo) ∧ w'.cell? ⟨w.heap.size, 1, none⟩ = some (.bool hh) ∧ w'.cell? ⟨w.heap.size, 2, none⟩ = some (.string hi)) (go_keep)
    ((first
      | (go_at_call 10; refine (toRuns_own v rs _ (HE2.out.below ((Below.refl _ _).drew)) hn).mono ?_; rintro e' w3 ⟨ga, la, rfl, hoA, hmA, hnA, hb3⟩; have k3 : Below w2.heap.size w2 w3 := ((Below.refl w2.heap.size w2).drew).trans hb3; obtain ⟨y0, y1, y2⟩ := HRg.out w3 (k2.trans (k3.mono k2.size)); have HA3 : Hid (OwnRuns w3 w2.heap.size ga la ∧ la.map Prod.snd = esOf rs ∧ la.length + totL la ≤ 1048576) := ⟨hoA, hmA, hnA⟩; clear hoA hmA hnA hb3)
      | (go_at_call 11; refine (toRange_core lo hi hh _).mono ?_; rintro e' w4 ⟨rfl, hb4⟩; have k4 : Below w2.heap.size w2 w4 := k3.trans (hb4.mono k3.size); have HA4 : Hid (OwnRuns w4 w2.heap.size ga la) := HA3.out.1.below hb4; clear y0 y1 y2; obtain ⟨y0, y1, y2⟩ := HRg.out w4 (k2.trans (k4.mono k2.size)); clear hb4)
      | (go_at_call 9; refine (specMerge_own w2.heap.size ga la lo hi hh _ HA4.out (okL_of HA3.out.2.1 HO.out) (by have := HA3.out.2.2; omega)).mono ?_; rintro e' w5 ⟨gs, cs, L, rfl, hS5, hb5, hLl, hRs⟩; have k5 : Below w2.heap.size w2 w5 := k4.trans (hb5.mono k4.size); have HS5 : Hid (OwnC w5 w2.heap.size gs cs L ∧ MrgOf (esOf rs) (inR lo hh hi) L) := ⟨hS5.mono k4.size, by { rw [← HA3.out.2.1]; exact hRs }⟩; clear y0 y1 y2; obtain ⟨y0, y1, y2⟩ := HRg.out w5 (k2.trans (k5.mono k2.size)); clear hS5 hb5 hRs)))
  clear q0 q1 q2 y0 y1 y2
  have s5 := k5.size
  have hgs := HS5.out.1.lt
  have kk5 : Below W0.heap.size W0 w5 := k2.trans (k5.mono k2.size)
  have HE5 : Hid (InRuns w5 v rs) := HE2.out.below k5
  go_wp2_with fail
  refine (toRuns_own v rs _ HE5.out hn).mono ?_
  rintro e w6 ⟨gx, lx, rfl, hoX, hmX, hnX, hb6⟩
  have s6 := hb6.size
  have HX6 : Hid (OwnRuns w6 w5.heap.size gx lx ∧ lx.map Prod.snd = esOf rs ∧ lx.length + totL lx ≤ 1048576) := ⟨hoX, hmX, hnX⟩
  have kk6 : Below W0.heap.size W0 w6 := kk5.trans (hb6.mono (by have := kk5.size; omega))
  clear hoX hmX hnX
  obtain ⟨q0, q1, q2⟩ := HRg.out w6 kk6
  go_wp2_with fail
  refine (toRange_core lo hi hh _).mono ?_
  rintro e w7 ⟨rfl, hb7⟩
  have s7 := hb7.size
  have HX7 : Hid (OwnRuns w7 w5.heap.size gx lx) := HX6.out.1.below hb7
  have kk7 : Below W0.heap.size W0 w7 := kk6.trans (hb7.mono (by have := kk6.size; omega))
  clear q0 q1 q2
  go_wp2_with fail
  refine (implMerge_own w5.heap.size gx lx lo hi hh _ HX7.out (okL_of HX6.out.2.1 HO.out) (by have := HX6.out.2.2; omega)).mono ?_
  rintro e w8 ⟨gi, ci, L', rfl, hI8, hb8, hRi⟩
  have s8 := hb8.size
  have hLL : L' = L := mrgOf_uniq (by rw [HX6.out.2.1] at hRi; exact hRi) HS5.out.2
  subst hLL
  have hgi := hI8.lt
  have HI8 : Hid (OwnC w8 w7.heap.size gi ci L') := hI8
  have k58 : Below w5.heap.size w5 w8 := (hb6.trans (hb7.mono s6)).trans (hb8.mono (by omega))
  have HS8 : Hid (OwnC w8 w2.heap.size gs cs L') := HS5.out.1.below k58 hgs.2
  have HX8 : Hid (OwnRuns w8 w5.heap.size gx lx) := HX7.out.below hb8
  have kk8 : Below W0.heap.size W0 w8 := kk7.trans (hb8.mono (by have := kk7.size; omega))
  clear hI8 hRi
  go_wp2_with fail
  refine (eqCellS_own HI8.out HS8.out).mono ?_
  rintro e w9 ⟨rfl, hb9⟩
  have s9 := hb9.size
  have kk9 : Below W0.heap.size W0 w9 := kk8.trans (hb9.mono (by have := kk8.size; omega))
  have HE9 : Hid (InRuns w9 v rs) := HE0.out.below kk9
  go_wp2_with fail
  refine (toRuns_own v rs _ HE9.out hn).mono ?_
  rintro e w10 ⟨gy, ly, rfl, hoY, hmY, hnY, hb10⟩
  have s10 := hb10.size
  have HY10 : Hid (OwnRuns w10 w9.heap.size gy ly ∧ ly.map Prod.snd = esOf rs) := ⟨hoY, hmY⟩
  have k810 : Below w8.heap.size w8 w10 := hb9.trans (hb10.mono s9)
  have HX10 : Hid (OwnRuns w10 w5.heap.size gx lx) := HX8.out.below k810
  clear hoY hmY hnY
  go_wp2_with fail
  refine (eqRunS_own w5.heap.size gx w9.heap.size gy lx ly _ HX10.out HY10.out.1 (by rw [HX6.out.2.1, HY10.out.2]) (by have := HX6.out.2.2; omega)).mono ?_
  rintro e w11 ⟨rfl, hb11⟩
  have s11 := hb11.size
  have k811 : Below w8.heap.size w8 w11 := k810.trans (hb11.mono (by omega))
  have HX11 : Hid (OwnRuns w11 w5.heap.size gx lx) := HX8.out.below k811
  have HI11 : Hid (OwnC w11 w7.heap.size gi ci L') := HI8.out.below k811 hgi.2
  have HS11 : Hid (OwnC w11 w2.heap.size gs cs L') := HS8.out.below k811 (by omega)
  have kk11 : Below W0.heap.size W0 w11 := kk8.trans (k811.mono (by have := kk8.size; omega))
  go_wp2_with fail
  refine (markRunS_core w5.heap.size gx lx _ HX11.out HX6.out.2.2).mono ?_
  rintro e w12 ⟨a, rfl, ha, hC12⟩
  have s12 := hC12.size
  have hrow : ∀ k, RowsOf lx k → w5.heap.size ≤ k ∧ k < w7.heap.size := by
    rintro k ⟨p, hp, rfl⟩
    exact ⟨(HX11.out.rows.2 p hp).lt.1, (HX7.out.rows.2 p hp).lt.2⟩
  have HI12 : Hid (OwnC w12 w7.heap.size gi ci L') := HI11.out.chg hC12 (fun q => by have := hrow gi q; omega)
  have HS12 : Hid (OwnC w12 w2.heap.size gs cs L') := HS11.out.chg hC12 (fun q => by have := hrow gs q; omega)
  have kk12 : Below W0.heap.size W0 w12 := Chg.below kk11 hC12 kk11.size (fun k q => by have := hrow k q; have := kk5.size; omega)
  clear hC12 hrow
  go_wp2_with fail
  refine (eqCellS_own HI12.out HS12.out).mono ?_
  rintro e w13 ⟨rfl, hb13⟩
  have s13 := hb13.size
  have HI13 : Hid (OwnC w13 w7.heap.size gi ci L') := HI12.out.below hb13 HI12.out.lt.2
  have HS13 : Hid (OwnC w13 w2.heap.size gs cs L') := HS12.out.below hb13 HS12.out.lt.2
  have kk13 : Below W0.heap.size W0 w13 := kk12.trans (hb13.mono kk12.size)
  go_wp2_with fail
  refine (markCellS_core w7.heap.size gi ci L' 1 _ HI13.out (by omega) (by omega) (by omega)).mono ?_
  rintro e w14 ⟨fs, rfl, hU, hl14, hm14, hg14⟩
  have s14 := hg14.size
  have HF14 : Hid (OwnC w14 w7.heap.size gi ci fs ∧ fs.length = L'.length ∧ markedC 1 fs fs.length) := ⟨hU, hl14, by rw [hl14]; exact hm14⟩
  have HS14 : Hid (OwnC w14 w2.heap.size gs cs L') := HS13.out.kept hg14 (fun q => by have := Option.some.inj q; omega)
  have kk14 : Below W0.heap.size W0 w14 := kk13.grown hg14 kk13.size (fun j hj => by cases hj; have := kk7.size; omega)
  have HRl : Hid (fs.length = L'.length) := hl14
  clear hU hl14 hm14 hg14
  go_wp2_with fail
  rw [← HRl.out]
  refine (heldCellS_core gi 0 ci fs 1 _ HF14.out.1.at HF14.out.2.2 HF14.out.1.lt.2 (by omega) (by omega) (by rw [HRl.out]; omega)).mono ?_
  rintro e w15 ⟨rfl, hb15⟩
  rw [HRl.out]
  have s15 := hb15.size
  have HS15 : Hid (OwnC w15 w2.heap.size gs cs L') := HS14.out.below hb15 HS14.out.lt.2
  have kk15 : Below W0.heap.size W0 w15 := kk14.trans (hb15.mono kk14.size)
  have HE15 : Hid (InRuns w15 v rs) := HE0.out.below kk15
  have hk2 : (0 : Int) ≤ 1 + (L'.length : Int) * 5 := by omega
  obtain ⟨q0, q1, q2⟩ := HRg.out w15 kk15
  go_upto_region 27 with fail
  go_region_held3 (fun w' => w'.cell? ⟨w.heap.size, 0, none⟩ = some (.string lo) ∧ w'.cell? ⟨w.heap.size, 1, none⟩ = some (.bool hh) ∧ w'.cell? ⟨w.heap.size, 2, none⟩ = some (.string hi)) (go_keep)
    ((first
      | (go_at_call 10; refine (toRuns_own v rs _ (HE15.out.below ((Below.refl _ _).drew)) hn).mono ?_; rintro e' w16 ⟨gz, lz, rfl, hoZ, hmZ, hnZ, hb16⟩; have k16 : Below w15.heap.size w15 w16 := ((Below.refl w15.heap.size w15).drew).trans hb16; obtain ⟨y0, y1, y2⟩ := HRg.out w16 (kk15.trans (k16.mono kk15.size)); have HZ16 : Hid (OwnRuns w16 w15.heap.size gz lz ∧ lz.map Prod.snd = esOf rs ∧ lz.length + totL lz ≤ 1048576) := ⟨hoZ, hmZ, hnZ⟩; clear hoZ hmZ hnZ hb16)
      | (go_at_call 11; refine (toRange_core lo hi hh _).mono ?_; rintro e' w17 ⟨rfl, hb17⟩; have k17 : Below w15.heap.size w15 w17 := k16.trans (hb17.mono k16.size); have HZ17 : Hid (OwnRuns w17 w15.heap.size gz lz) := HZ16.out.1.below hb17; clear y0 y1 y2; obtain ⟨y0, y1, y2⟩ := HRg.out w17 (kk15.trans (k17.mono kk15.size)); clear hb17)
      | (go_at_call 12; refine (implMerge_own w15.heap.size gz lz lo hi hh _ HZ17.out (okL_of HZ16.out.2.1 HO.out) (by have := HZ16.out.2.2; omega)).mono ?_; rintro e' w18 ⟨gj, cj, M, rfl, hJ18, hb18, hRj⟩; have k18 : Below w15.heap.size w15 w18 := k17.trans (hb18.mono k17.size); have HJ18 : Hid (OwnC w18 w15.heap.size gj cj M ∧ MrgOf (esOf rs) (inR lo hh hi) M) := ⟨hJ18.mono k17.size, by { rw [← HZ16.out.2.1]; exact hRj }⟩; clear y0 y1 y2; obtain ⟨y0, y1, y2⟩ := HRg.out w18 (kk15.trans (k18.mono kk15.size)); clear hJ18 hb18 hRj)))
  clear q0 q1 q2 y0 y1 y2
  have hML : M = L' := mrgOf_uniq HJ18.out.2 HS5.out.2
  subst hML
  have HS18 : Hid (OwnC w18 w2.heap.size gs cs M) := HS15.out.below k18 HS15.out.lt.2
  have kk18 : Below W0.heap.size W0 w18 := kk15.trans (k18.mono kk15.size)
  go_wp2_with fail
  refine (eqCellS_own HJ18.out.1 HS18.out).mono ?_
  rintro e w19 ⟨rfl, hb19⟩
  have kk19 : Below W0.heap.size W0 w19 := kk18.trans (hb19.mono kk18.size)
  go_wp2_with fail
  go_ret
  exact ⟨rfl, hb0.trans (kk19.mono (by omega))⟩

theorem lifted (os : Os) (started : os.Started) (H : Type) (enc : TypeId × Value → H) :
    ReturnsInHanded {} Try.checked os 3 .any (Rows.fnExactMergeRunsSpec.pre6 enc Try.prog Try.f3 Rows.fnExactMergeRunsRow.domain false) (Rows.fnExactMergeRunsSpec.post enc Try.prog Try.f3 false true false false) := by
  refine returnsInHanded_of_change (C := Try.checked) own started (by kernel_rfl) Try.func3
    (ChangeSpec.witness6 (enc := enc) (C := Try.checked) false ⟨#[], #[.slice none 0 0, .agg #[.string ⟨#[]⟩, .bool false, .string ⟨#[]⟩]], []⟩ 8 (by kernel_rfl) (by kernel_rfl) (by kernel_rfl) (by kernel_rfl)) ?_
  intro W base args ds gs before hval0 hW hcnd _
  have hval : ∀ (j : Nat) t v, Try.f3.params[j]? = some t → args[j]? = some v → Value.okWide Try.prog W .any base t v := hval0
  have hW' := hW
  obtain ⟨p, q, hA0, hV, rfl, hfz, hnd⟩ := hW
  have hA : DataW.TrodAll enc Try.prog W 0 (fun _ => true) true Try.f3.params.toList args.toList ds p := hA0
  rw [Try.params3] at hA hval
  obtain ⟨v0, vs0, d0, ds0, p0, q0, hargs, rfl, rfl, h0, r0⟩ := trodAll_cons hA
  obtain ⟨v1, vs1, d1, ds1, p1, q1, rfl, rfl, rfl, h1, r1⟩ := trodAll_cons r0
  obtain ⟨rfl, rfl, rfl⟩ := trodAll_nil r1
  obtain rfl : args = #[v0, v1] := by cases args; simp_all
  obtain ⟨rfl, rfl⟩ := trodVars_none hV
  have k0 := h0
  have lt0 : ∀ x ∈ p0, x.block < W.heap.size := by obtain ⟨m, hm⟩ := k0; exact DataW.trod_lt m _ _ _ hm
  obtain ⟨rs, hin, ok0⟩ : ∃ rs : List Rn, InRuns W v0 rs ∧ okR rs := by
    obtain ⟨a0, len0, cap0, rfl⟩ := okWide_slice Try.underlying22 (hval 0 22 v0 rfl rfl)
    obtain ⟨fuel, hf⟩ := h0
    exact runs_of_trod (by simpa [Value.cells] using hf)
  have k1 := h1
  have lt1 : ∀ x ∈ p1, x.block < W.heap.size := by obtain ⟨m, hm⟩ := k1; exact DataW.trod_lt m _ _ _ hm
  obtain ⟨lo, hi, hh, ol, oh, rfl⟩ := open_rng (hval 1 24 v1 rfl rfl) h1
  clear hA0 hval0
  refine (walk v0 rs lo hi hh W hin ok0 ol oh).mono fun e W' ⟨he, bel⟩ => ?_
  subst he
  exact ⟨_, rfl, _, _, _, [], _, [], hW', trodAll_mk1 (shut_bool Try.underlying4 _), (trodAll_cons_mk (Below.trod laidOut (by kernel_rfl) (of_decide_eq_true (by kernel_rfl)) k0 bel lt0) (trodAll_cons_mk (Below.trod laidOut (by kernel_rfl) (of_decide_eq_true (by kernel_rfl)) k1 bel lt1) trodAll_mk0)), rfl, bel.frame _, fun h => by cases h⟩

theorem over : Rows.fnExactMergeRunsRow.holds Try.pinned (OpenSpec.ofChange Rows.fnExactMergeRunsSpec) :=
  OpenClaim.holds_of_wide 3 Try.f3 rfl rfl rfl rfl rfl rfl rfl ⟨rfl, rfl, rfl, rfl, rfl⟩ rfl rfl rfl rfl rfl (by kernel_rfl) Try.func3 (by kernel_rfl)
    (of_decide_eq_true (by kernel_rfl)) (by unfold Func.isWrapper; first | (rw [if_pos (by decide +kernel)]; kernel_rfl) | (rw [if_neg (by decide +kernel)]; exact ⟨rfl, rfl⟩))
    (fun os started H enc _ => lifted os started H enc)

end Go.Proofs.Ytnncedndlhfdkac.exMergeRuns
namespace Go.Proofs.Ytnncedndlhfdkac
theorem exactMergeRuns_holds : Rows.FnExactMergeRunsSaid := exMergeRuns.over
#print axioms exactMergeRuns_holds
end Go.Proofs.Ytnncedndlhfdkac

