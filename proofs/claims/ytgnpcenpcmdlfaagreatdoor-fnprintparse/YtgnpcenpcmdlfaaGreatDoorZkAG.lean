import Derived.Test.YtgnpcenpcmdlfaaGreatDoorZkAF
import Derived.Test.YtgnpcenpcmdlfaaGreatDoorZkAA
/-
  The draws: filters at the limits.
-/
namespace Go.Proofs.YtgnpcenpcmdlfaaGreatDoor
open Go.ChangeShapes Go.WideShapes Go.ChangeAt Go.RowKit Go.Deep
set_option linter.unusedVariables false
set_option linter.unusedSimpArgs false
set_option maxRecDepth 100000

abbrev ndC (f : Nd) : List Value := f.seven
theorem ownNd_lits (w : World) (base : Nat) (es : List Nd) (cs : Array Value) (hcs : cs.toList = cellsN es) (hb : base ≤ w.heap.size) (hl : es.length ≤ maxLen) : OwnNd (w.alloc (Obj.cells cs 65)) base w.heap.size es.length es := by
  have h := World.ownsRow_lit (base := base) (e := 65) (size := 7) w cs es.length hb hl (by rw [← Array.length_toList, hcs, length_cellsN])
  unfold OwnNd
  rw [← hcs]
  exact h
abbrev limN : Nd := ⟨11, ⟨#[]⟩, false, ⟨#[]⟩, 0, 0, 2⟩
theorem lim_small : limN.small := ⟨by decide, by decide, by decide, by decide, by decide, by decide⟩
/-- Limits under way. -/
structure LimJ (base cb : Nat) (bv : Value) (n : Nat) (w : World) (eb g cp len : Nat) (wr : World) : Prop where
  row : ∃ xs : List Nd, len = xs.length ∧ (∀ e ∈ xs, e.small) ∧ OwnNd wr w.heap.size g cp xs
  leaf : BoxAt wr w.heap.size 65 7 eb limN.seven
  res : BoxAt wr w.heap.size 25 1 w.heap.size [.slice none 0 0]
  d : DInv base cb bv n w wr
  ne : ¬ g = eb ∧ w.heap.size < eb
theorem LimJ.app {base cb : Nat} {bv : Value} {n : Nat} {w : World} {eb g cp len : Nat} {wr wx w' : World} (h : LimJ base cb bv n w eb g cp len wr) (hx : Below wr.heap.size wr wx) {g' cp' : Nat} {xs es : List Nd} (hxs : ∀ e ∈ xs, e.small) (hes : ∀ e ∈ es, e.small) (hO : OwnNd w' w.heap.size g' cp' (xs ++ es)) (hgr : wx.grownBy w' (some g)) (hat : g' = g ∨ g' = wx.heap.size) (hg : w.heap.size < g) : LimJ base cb bv n w eb g' cp' (xs ++ es).length w' := by
  have hc : Chg (fun k => k = g) wx w' := Chg.of_grown hgr (fun k q => by cases q; rfl)
  have hl := h.leaf.lt.2
  have hz := hx.size
  have hr := h.res.lt.2
  refine ⟨⟨xs ++ es, rfl, fun e he => (List.mem_append.1 he).elim (fun q => hxs e q) (fun q => hes e q), hO⟩, (h.leaf.below hx).chg hc (fun q => h.ne.1 q.symm), (h.res.below hx).chg hc (by omega), (h.d.below hx).grow hgr (fun k q => by cases q; omega), ?_, h.ne.2⟩
  rcases hat with q | q
  · rw [q]; exact h.ne.1
  · omega
theorem LimJ.fin {base cb : Nat} {bv : Value} {n : Nat} {w : World} {eb g cp len : Nat} {wr : World} (h : LimJ base cb bv n w eb g cp len wr) (hg : w.heap.size < g) (hl : len ≤ 1000) (h0 : 0 < len) (W9 : World) (h9 : W9 = wr.setCell ⟨w.heap.size, 0, none⟩ (.slice (some ⟨g, 0, none⟩) len cp)) :
    W9.cell? ⟨w.heap.size, 0, none⟩ = some (.slice (some ⟨g, 0, none⟩) len cp) ∧ FilP base cb bv n 1000 w (.returned (.agg #[.slice (some ⟨g, 0, none⟩) len cp])) W9 := by
  obtain ⟨xs, rfl, hs, hO⟩ := h.row
  have hc3 : Chg (fun k => k = w.heap.size) wr W9 := by rw [h9]; exact Chg.of_set _ _ _ _ rfl
  refine ⟨by rw [h9]; exact (h.res.set 0 (.slice (some ⟨g, 0, none⟩) xs.length cp)).cell (j := 0) rfl, g, cp, xs, rfl, hl, h0, hs, hO.chg hc3 (by omega), ?_⟩
  rw [h9]
  exact h.d.grow (grown_set wr w.heap.size 0 _) (fun k q => by cases q; exact Nat.le_refl _)
set_option maxHeartbeats 16000000 in
theorem drawLimit_core (base cb : Nat) (bv : Value) (n : Nat) (w : World) (h : DrawAt base cb bv n w) :
    Calls Tryz.prog 68 #[.pointer (some ⟨cb, 0, none⟩)] w (FilP base cb bv n 1000 w) := by
  obtain ⟨Wa, hWa⟩ : ∃ Wa : World, Wa = w.alloc (Obj.cells #[.slice none 0 0] 25) := ⟨_, rfl⟩
  have hba : Below w.heap.size w Wa := by rw [hWa]; exact (Below.refl _ _).alloc (Nat.le_refl _) _
  have HA : Hid (DInv base cb bv n w Wa ∧ BoxAt Wa w.heap.size 25 1 w.heap.size [.slice none 0 0]) := ⟨(DInv.start h).below hba, by rw [hWa]; exact boxAt_new w #[.slice none 0 0] (Nat.le_refl _) rfl⟩
  clear h hba
  go_enter Tryz.func68, Tryz.ntmps68
  go_wp2_with fail
  rw [← hWa]
  clear hWa
  refine (below_core base cb bv n 6 _ HA.out.1.d (by omega) (by omega)).mono ?_
  rintro e w1 ⟨x, rfl, hx0, hx1, hd1⟩
  have H1 : Hid (DInv base cb bv n w w1 ∧ BoxAt w1 w.heap.size 25 1 w.heap.size [.slice none 0 0]) := ⟨HA.out.1.call hd1, HA.out.2.chg hd1.2 (by have := HA.out.1.lt; omega)⟩
  clear hd1 HA
  go_wp2_with fail
  refine (below_core base cb bv n 2 _ H1.out.1.d (by omega) (by omega)).mono ?_
  rintro e w2 ⟨y, rfl, hy0, hy1, hd2⟩
  have H2 : Hid (DInv base cb bv n w w2 ∧ BoxAt w2 w.heap.size 25 1 w.heap.size [.slice none 0 0]) := ⟨H1.out.1.call hd2, H1.out.2.chg hd2.2 (by have := H1.out.1.lt; omega)⟩
  clear hd2 H1
  obtain ⟨eb, heb⟩ : ∃ eb, eb = w2.heap.size := ⟨_, rfl⟩
  obtain ⟨W3, hW3⟩ : ∃ W3 : World, W3 = w2.alloc (Obj.cells #[.int .i64 11, .string ⟨#[]⟩, .bool false, .string ⟨#[]⟩, .int .u64 0, .int .u64 0, .int .i64 2] 65) := ⟨_, rfl⟩
  obtain ⟨W4, hW4⟩ : ∃ W4 : World, W4 = W3.alloc (Obj.cells #[.int .i64 11, .string ⟨#[]⟩, .bool false, .string ⟨#[]⟩, .int .u64 0, .int .u64 0, .int .i64 2] 65) := ⟨_, rfl⟩
  have hz3 : W3.heap.size = eb + 1 := by rw [hW3, heb]; simp
  have hz4 : W4.heap.size = eb + 2 := by rw [hW4]; simp [hz3]
  have H4 : Hid (LimJ base cb bv n w eb (eb + 1) 1 1 W4) := by
    have k3 : Below w2.heap.size w2 W3 := by rw [hW3]; exact (Below.refl _ _).alloc (Nat.le_refl _) _
    have k4 : Below W3.heap.size W3 W4 := by rw [hW4]; exact (Below.refl _ _).alloc (Nat.le_refl _) _
    have hr := H2.out.2.lt.2
    have b3 : BoxAt W3 w.heap.size 65 7 eb limN.seven := by rw [hW3, heb]; exact boxAt_new w2 #[.int .i64 11, .string ⟨#[]⟩, .bool false, .string ⟨#[]⟩, .int .u64 0, .int .u64 0, .int .i64 2] (by omega) rfl
    have o4 : OwnNd W4 w.heap.size W3.heap.size 1 [limN] := by rw [hW4]; exact ownNd_one W3 w.heap.size limN (by omega)
    rw [hz3] at o4
    exact ⟨⟨[limN], rfl, fun e he => by simp at he; subst he; exact lim_small, o4⟩, b3.below k4, (H2.out.2.below k3).below k4, (H2.out.1.below k3).below k4, by omega, by omega⟩
  clear H2
  go_upto_region 5 with fail
  rw [← hW3, ← heb, ← hW4]
  clear hW3 hW4 heb
  by_cases x3 : x = 3
  · subst x3
    obtain ⟨W5, hW5⟩ : ∃ W5 : World, W5 = W4.alloc (Obj.cells #[.int .i64 11, .string ⟨#[]⟩, .bool false, .string ⟨#[]⟩, .int .u64 0, .int .u64 0, .int .i64 2, .int .i64 11, .string ⟨#[]⟩, .bool false, .string ⟨#[]⟩, .int .u64 0, .int .u64 0, .int .i64 2, .int .i64 11, .string ⟨#[]⟩, .bool false, .string ⟨#[]⟩, .int .u64 0, .int .u64 0, .int .i64 2, .int .i64 16, .string ⟨#[]⟩, .bool false, .string ⟨#[]⟩, .int .u64 0, .int .u64 0, .int .i64 0] 65) := ⟨_, rfl⟩
    have H5 : Hid (LimJ base cb bv n w eb (eb + 2) 4 4 W5) := by
      have k5 : Below W4.heap.size W4 W5 := by rw [hW5]; exact (Below.refl _ _).alloc (Nat.le_refl _) _
      have o5 : OwnNd W5 w.heap.size W4.heap.size 4 [limN, limN, limN, (⟨16, ⟨#[]⟩, false, ⟨#[]⟩, 0, 0, 0⟩ : Nd)] := by rw [hW5]; exact ownNd_lits W4 w.heap.size [limN, limN, limN, (⟨16, ⟨#[]⟩, false, ⟨#[]⟩, 0, 0, 0⟩ : Nd)] #[.int .i64 11, .string ⟨#[]⟩, .bool false, .string ⟨#[]⟩, .int .u64 0, .int .u64 0, .int .i64 2, .int .i64 11, .string ⟨#[]⟩, .bool false, .string ⟨#[]⟩, .int .u64 0, .int .u64 0, .int .i64 2, .int .i64 11, .string ⟨#[]⟩, .bool false, .string ⟨#[]⟩, .int .u64 0, .int .u64 0, .int .i64 2, .int .i64 16, .string ⟨#[]⟩, .bool false, .string ⟨#[]⟩, .int .u64 0, .int .u64 0, .int .i64 0] rfl H4.out.d.c.size (by decide)
      rw [hz4] at o5
      exact ⟨⟨_, rfl, fun e he => by simp at he; rcases he with rfl | rfl <;> first | exact lim_small | exact small_kind _ (by omega), o5⟩, H4.out.leaf.below k5, H4.out.res.below k5, H4.out.d.below k5, by omega, H4.out.ne.2⟩
    obtain ⟨b0, b1, b2, b3, b4, b5, b6⟩ := And.intro (H4.out.leaf.cell (j := 0) rfl) (And.intro (H4.out.leaf.cell (j := 1) rfl) (And.intro (H4.out.leaf.cell (j := 2) rfl) (And.intro (H4.out.leaf.cell (j := 3) rfl) (And.intro (H4.out.leaf.cell (j := 4) rfl) (And.intro (H4.out.leaf.cell (j := 5) rfl) (H4.out.leaf.cell (j := 6) rfl))))))
    simp only at b0 b1 b2 b3 b4 b5 b6
    go_upto_region 7 with fail
    rw [← hW5]
    clear hW5 b0 b1 b2 b3 b4 b5 b6
    go_wp2_with fail
    go_loopw [6, 7] (fun nv iv wr => ∃ (i g cp len : Nat), (i : Int) ≤ (98 : Int) ∧ iv = .int .i64 (i : Int) ∧ nv = .slice (some ⟨g, 0, none⟩) len cp ∧ (len ≤ 4 + 2 * i ∧ 0 < len) ∧ w.heap.size < g ∧ Hid (LimJ base cb bv n w eb g cp len wr)) (fun _ iv _ => ((98 : Int)).toNat - (intOf iv).toNat)
    case atStart => exact ⟨0, eb + 2, 4, 4, by omega, rfl, rfl, ⟨by omega, by omega⟩, by have := H5.out.ne.2; omega, H5.out⟩
    case round =>
      obtain ⟨i, g, cp, len, hi, rfl, rfl, hlen, hgw, HJ⟩ := hrel
      by_cases hlt : (i : Int) < (98 : Int)
      · obtain ⟨xs, hxl, hxs, hxO⟩ := HJ.out.row
        have HX : Hid (len = xs.length ∧ (∀ e ∈ xs, e.small) ∧ OwnNd wr w.heap.size g cp xs) := ⟨hxl, hxs, hxO⟩
        clear hxl hxs hxO
        obtain ⟨b0, b1, b2, b3, b4, b5, b6⟩ := And.intro (HJ.out.leaf.cell (j := 0) rfl) (And.intro (HJ.out.leaf.cell (j := 1) rfl) (And.intro (HJ.out.leaf.cell (j := 2) rfl) (And.intro (HJ.out.leaf.cell (j := 3) rfl) (And.intro (HJ.out.leaf.cell (j := 4) rfl) (And.intro (HJ.out.leaf.cell (j := 5) rfl) (HJ.out.leaf.cell (j := 6) rfl))))))
        simp only at b0 b1 b2 b3 b4 b5 b6
        obtain ⟨WX, hWX⟩ : ∃ WX : World, WX = wr.alloc (Obj.cells #[.int .i64 11, .string ⟨#[]⟩, .bool false, .string ⟨#[]⟩, .int .u64 0, .int .u64 0, .int .i64 2, .int .i64 14, .string ⟨#[]⟩, .bool false, .string ⟨#[]⟩, .int .u64 0, .int .u64 0, .int .i64 0] 65) := ⟨_, rfl⟩
        have HWX : Hid (Below wr.heap.size wr WX ∧ NdsAt WX wr.heap.size 0 [limN, (⟨14, ⟨#[]⟩, false, ⟨#[]⟩, 0, 0, 0⟩ : Nd)] ∧ WX = wr.alloc (Obj.cells #[.int .i64 11, .string ⟨#[]⟩, .bool false, .string ⟨#[]⟩, .int .u64 0, .int .u64 0, .int .i64 2, .int .i64 14, .string ⟨#[]⟩, .bool false, .string ⟨#[]⟩, .int .u64 0, .int .u64 0, .int .i64 0] 65)) := ⟨by rw [hWX]; exact (Below.refl _ _).alloc (Nat.le_refl _) _, by rw [hWX]; exact (ownNd_lits wr w.heap.size [limN, (⟨14, ⟨#[]⟩, false, ⟨#[]⟩, 0, 0, 0⟩ : Nd)] #[.int .i64 11, .string ⟨#[]⟩, .bool false, .string ⟨#[]⟩, .int .u64 0, .int .u64 0, .int .i64 2, .int .i64 14, .string ⟨#[]⟩, .bool false, .string ⟨#[]⟩, .int .u64 0, .int .u64 0, .int .i64 0] rfl HJ.out.d.c.size (by decide)).at, hWX⟩
        clear hWX
        go_wp2_with (at_builtin; rw [← HWX.out.2.2]; refine wpList_append_nd _ rfl _ _ rfl w.heap.size g cp len wr.heap.size 0 2 2 xs [limN, (⟨14, ⟨#[]⟩, false, ⟨#[]⟩, 0, 0, 0⟩ : Nd)] rfl rfl HX.out.1 rfl (HX.out.2.2.below HWX.out.1 HX.out.2.2.lt.2) HWX.out.2.1 ?hl ?hb ?_)
        case hl => rw [← HX.out.1]; simp; omega
        case hb => have h1 := HJ.out.d.c.size; have h2 := HWX.out.1.size; omega
        intro g' cp' w' hO' hgr hat
        have HN : Hid (LimJ base cb bv n w eb g' cp' (len + 2) w' ∧ w.heap.size < g') := by
          have h8 := HJ.out.app HWX.out.1 HX.out.2.1 (es := [limN, (⟨14, ⟨#[]⟩, false, ⟨#[]⟩, 0, 0, 0⟩ : Nd)]) (fun e he => by simp at he; rcases he with rfl | rfl <;> first | exact lim_small | exact small_kind _ (by omega)) hO' hgr hat hgw
          have h9 : (xs ++ [limN, (⟨14, ⟨#[]⟩, false, ⟨#[]⟩, 0, 0, 0⟩ : Nd)]).length = len + 2 := by rw [List.length_append, ← HX.out.1]; rfl
          rw [h9] at h8
          refine ⟨h8, ?_⟩
          rcases hat with q | q
          · rw [q]; exact hgw
          · have h1 := HJ.out.d.c.size; have h2 := HWX.out.1.size; have h3 := HJ.out.res.lt.2; omega
        clear hO' hgr hat b0 b1 b2 b3 b4 b5 b6
        go_wp2_with fail
        go_roundw
        case rel => exact ⟨i + 1, g', cp', len + 2, by omega, by go_num, rfl, ⟨by omega, by omega⟩, HN.out.2, HN.out.1⟩
        case measure => simp [intOf]; omega
      · obtain ⟨WF, hWF⟩ : ∃ WF : World, WF = wr.setCell ⟨w.heap.size, 0, none⟩ (.slice (some ⟨g, 0, none⟩) (len) cp) := ⟨_, rfl⟩
        obtain ⟨p0, HRes⟩ := HJ.out.fin (by omega) (by omega) (by omega) WF hWF
        have HRH : Hid (FilP base cb bv n 1000 w (.returned (.agg #[.slice (some ⟨g, 0, none⟩) (len) cp])) WF) := HRes
        have r0 := HJ.out.res.cell (j := 0) rfl
        have rf := HJ.out.res.frozen 0
        clear HRes
        go_wp2_with fail
        rw [← hWF]
        exact bodyPost_ret (by simp [results, Tryz.results68, go_sem, p0]) rfl HRH.out
  by_cases x4 : x = 4
  · subst x4
    obtain ⟨WQ, hWQ⟩ : ∃ WQ, WQ = W4 := ⟨_, rfl⟩
    rw [← hWQ]
    have HQ : Hid (LimJ base cb bv n w eb (eb + 1) 1 1 WQ) := by rw [hWQ]; exact H4.out
    clear hWQ H4 hz4
    have hsm : (⟨12, ⟨#[]⟩, false, ⟨#[]⟩, 0, 0, 1000 + y⟩ : Nd).small := ⟨Nat.zero_le _, Nat.zero_le _, (by show (0 : Int) ≤ 0 ∧ (0 : Int) ≤ 100000; omega), (by show (0 : Int) ≤ 0 ∧ (0 : Int) ≤ 100000; omega), (by show 0 ≤ 1000 + y ∧ 1000 + y ≤ 100000; omega), (by show (0 : Int) ≤ 12 ∧ (12 : Int) ≤ 100000; omega)⟩
    obtain ⟨W5, hW5⟩ : ∃ W5 : World, W5 = WQ.alloc (Obj.cells #[.int .i64 12, .string ⟨#[]⟩, .bool false, .string ⟨#[]⟩, .int .u64 0, .int .u64 0, .int .i64 (1000 + y)] 65) := ⟨_, rfl⟩
    have H5 : Hid (LimJ base cb bv n w eb WQ.heap.size 1 1 W5) := by
      have k5 : Below WQ.heap.size WQ W5 := by rw [hW5]; exact (Below.refl _ _).alloc (Nat.le_refl _) _
      have o5 : OwnNd W5 w.heap.size WQ.heap.size 1 [(⟨12, ⟨#[]⟩, false, ⟨#[]⟩, 0, 0, 1000 + y⟩ : Nd)] := by rw [hW5]; exact ownNd_lits WQ w.heap.size [(⟨12, ⟨#[]⟩, false, ⟨#[]⟩, 0, 0, 1000 + y⟩ : Nd)] #[.int .i64 12, .string ⟨#[]⟩, .bool false, .string ⟨#[]⟩, .int .u64 0, .int .u64 0, .int .i64 (1000 + y)] rfl HQ.out.d.c.size (by show 1 ≤ maxLen; decide)
      have hlb := HQ.out.leaf.lt.2
      exact ⟨⟨_, rfl, fun e he => by simp at he; subst he; exact hsm, o5⟩, HQ.out.leaf.below k5, HQ.out.res.below k5, HQ.out.d.below k5, by omega, HQ.out.ne.2⟩
    have hgq : w.heap.size < WQ.heap.size := by have h1 := HQ.out.leaf.lt.2; have h2 := HQ.out.ne.2; omega
    obtain ⟨WF, hWF⟩ : ∃ WF : World, WF = W5.setCell ⟨w.heap.size, 0, none⟩ (.slice (some ⟨WQ.heap.size, 0, none⟩) (1) 1) := ⟨_, rfl⟩
    obtain ⟨p0, HRes⟩ := H5.out.fin (by omega) (by omega) (by omega) WF hWF
    have HRH : Hid (FilP base cb bv n 1000 w (.returned (.agg #[.slice (some ⟨WQ.heap.size, 0, none⟩) (1) 1])) WF) := HRes
    have r0 := H5.out.res.cell (j := 0) rfl
    have rf := H5.out.res.frozen 0
    clear HRes
    rw [hW5] at r0 rf
    have HWE : Hid ((WQ.setCell ⟨w.heap.size, 0, none⟩ (.slice (some ⟨WQ.heap.size, 0, none⟩) 1 1)).alloc (Obj.cells #[.int .i64 12, .string ⟨#[]⟩, .bool false, .string ⟨#[]⟩, .int .u64 0, .int .u64 0, .int .i64 (1000 + y)] 65) = WF) := by
      show _ = _
      rw [hWF, hW5]
      go_simp
    clear hWF
    go_wp2_with fail
    rw [HWE.out]
    exact bodyPost_ret (by simp [results, Tryz.results68, go_sem, p0]) rfl HRH.out
  by_cases x5 : x = 5
  · subst x5
    obtain ⟨yn, rfl⟩ : ∃ k : Nat, y = (k : Int) := ⟨y.toNat, by omega⟩
    have HMy : Hid (Calls Tryz.prog 42 #[.string ⟨#[97]⟩, .int .i64 (200 + (yn : Int))] W4 fun e w' => ∃ s : ByteArray, e = .returned (.string s) ∧ s.size ≤ 1000 ∧ Below W4.heap.size W4 w') := by
      have h9 := many_core 97 (200 + yn) W4 (by omega)
      have e9 : ((200 + yn : Nat) : Int) = 200 + (yn : Int) := by omega
      rw [e9] at h9
      exact h9
    go_wp2_with fail
    refine HMy.out.mono ?_
    rintro e WQ ⟨s, rfl, hs, hbq⟩
    have HQ : Hid (LimJ base cb bv n w eb (eb + 1) 1 1 WQ) := by
      obtain ⟨xs, h1, h2, h3⟩ := H4.out.row
      exact ⟨⟨xs, h1, h2, h3.below hbq h3.lt.2⟩, H4.out.leaf.below hbq, H4.out.res.below hbq, H4.out.d.below hbq, H4.out.ne⟩
    clear hbq H4 hz4
    have hsm : (⟨9, s, false, ⟨#[]⟩, 0, 0, 0⟩ : Nd).small := ⟨(by show s.size ≤ 200000; omega), Nat.zero_le _, (by show (0 : Int) ≤ 0 ∧ (0 : Int) ≤ 100000; omega), (by show (0 : Int) ≤ 0 ∧ (0 : Int) ≤ 100000; omega), (by show (0 : Int) ≤ 0 ∧ (0 : Int) ≤ 100000; omega), (by show (0 : Int) ≤ 9 ∧ (9 : Int) ≤ 100000; omega)⟩
    obtain ⟨W5, hW5⟩ : ∃ W5 : World, W5 = WQ.alloc (Obj.cells #[.int .i64 9, .string s, .bool false, .string ⟨#[]⟩, .int .u64 0, .int .u64 0, .int .i64 0] 65) := ⟨_, rfl⟩
    have H5 : Hid (LimJ base cb bv n w eb WQ.heap.size 1 1 W5) := by
      have k5 : Below WQ.heap.size WQ W5 := by rw [hW5]; exact (Below.refl _ _).alloc (Nat.le_refl _) _
      have o5 : OwnNd W5 w.heap.size WQ.heap.size 1 [(⟨9, s, false, ⟨#[]⟩, 0, 0, 0⟩ : Nd)] := by rw [hW5]; exact ownNd_lits WQ w.heap.size [(⟨9, s, false, ⟨#[]⟩, 0, 0, 0⟩ : Nd)] #[.int .i64 9, .string s, .bool false, .string ⟨#[]⟩, .int .u64 0, .int .u64 0, .int .i64 0] rfl HQ.out.d.c.size (by show 1 ≤ maxLen; decide)
      have hlb := HQ.out.leaf.lt.2
      exact ⟨⟨_, rfl, fun e he => by simp at he; subst he; exact hsm, o5⟩, HQ.out.leaf.below k5, HQ.out.res.below k5, HQ.out.d.below k5, by omega, HQ.out.ne.2⟩
    have hgq : w.heap.size < WQ.heap.size := by have h1 := HQ.out.leaf.lt.2; have h2 := HQ.out.ne.2; omega
    obtain ⟨WF, hWF⟩ : ∃ WF : World, WF = W5.setCell ⟨w.heap.size, 0, none⟩ (.slice (some ⟨WQ.heap.size, 0, none⟩) (1) 1) := ⟨_, rfl⟩
    obtain ⟨p0, HRes⟩ := H5.out.fin (by omega) (by omega) (by omega) WF hWF
    have HRH : Hid (FilP base cb bv n 1000 w (.returned (.agg #[.slice (some ⟨WQ.heap.size, 0, none⟩) (1) 1])) WF) := HRes
    have r0 := H5.out.res.cell (j := 0) rfl
    have rf := H5.out.res.frozen 0
    clear HRes
    rw [hW5] at r0 rf
    have HWE : Hid ((WQ.setCell ⟨w.heap.size, 0, none⟩ (.slice (some ⟨WQ.heap.size, 0, none⟩) 1 1)).alloc (Obj.cells #[.int .i64 9, .string s, .bool false, .string ⟨#[]⟩, .int .u64 0, .int .u64 0, .int .i64 0] 65) = WF) := by
      show _ = _
      rw [hWF, hW5]
      go_simp
    clear hWF
    go_wp2_with fail
    rw [HWE.out]
    exact bodyPost_ret (by simp [results, Tryz.results68, go_sem, p0]) rfl HRH.out
  by_cases x0 : x = 0
  · subst x0
    go_wp2_with fail
    go_loopw [6, 8] (fun nv iv wr => ∃ (i g cp len : Nat), (i : Int) ≤ 99 + y ∧ iv = .int .i64 (i : Int) ∧ nv = .slice (some ⟨g, 0, none⟩) len cp ∧ (len ≤ 1 + 2 * i ∧ 0 < len) ∧ w.heap.size < g ∧ Hid (LimJ base cb bv n w eb g cp len wr)) (fun _ iv _ => (99 + y).toNat - (intOf iv).toNat)
    case atStart => exact ⟨0, eb + 1, 1, 1, by omega, rfl, rfl, ⟨by omega, by omega⟩, by have := H4.out.ne.2; omega, H4.out⟩
    case round =>
      obtain ⟨i, g, cp, len, hi, rfl, rfl, hlen, hgw, HJ⟩ := hrel
      by_cases hlt : (i : Int) < 99 + y
      · obtain ⟨xs, hxl, hxs, hxO⟩ := HJ.out.row
        have HX : Hid (len = xs.length ∧ (∀ e ∈ xs, e.small) ∧ OwnNd wr w.heap.size g cp xs) := ⟨hxl, hxs, hxO⟩
        clear hxl hxs hxO
        obtain ⟨b0, b1, b2, b3, b4, b5, b6⟩ := And.intro (HJ.out.leaf.cell (j := 0) rfl) (And.intro (HJ.out.leaf.cell (j := 1) rfl) (And.intro (HJ.out.leaf.cell (j := 2) rfl) (And.intro (HJ.out.leaf.cell (j := 3) rfl) (And.intro (HJ.out.leaf.cell (j := 4) rfl) (And.intro (HJ.out.leaf.cell (j := 5) rfl) (HJ.out.leaf.cell (j := 6) rfl))))))
        simp only at b0 b1 b2 b3 b4 b5 b6
        obtain ⟨WX, hWX⟩ : ∃ WX : World, WX = wr.alloc (Obj.cells #[.int .i64 11, .string ⟨#[]⟩, .bool false, .string ⟨#[]⟩, .int .u64 0, .int .u64 0, .int .i64 2, .int .i64 14, .string ⟨#[]⟩, .bool false, .string ⟨#[]⟩, .int .u64 0, .int .u64 0, .int .i64 0] 65) := ⟨_, rfl⟩
        have HWX : Hid (Below wr.heap.size wr WX ∧ NdsAt WX wr.heap.size 0 [limN, (⟨14, ⟨#[]⟩, false, ⟨#[]⟩, 0, 0, 0⟩ : Nd)] ∧ WX = wr.alloc (Obj.cells #[.int .i64 11, .string ⟨#[]⟩, .bool false, .string ⟨#[]⟩, .int .u64 0, .int .u64 0, .int .i64 2, .int .i64 14, .string ⟨#[]⟩, .bool false, .string ⟨#[]⟩, .int .u64 0, .int .u64 0, .int .i64 0] 65)) := ⟨by rw [hWX]; exact (Below.refl _ _).alloc (Nat.le_refl _) _, by rw [hWX]; exact (ownNd_lits wr w.heap.size [limN, (⟨14, ⟨#[]⟩, false, ⟨#[]⟩, 0, 0, 0⟩ : Nd)] #[.int .i64 11, .string ⟨#[]⟩, .bool false, .string ⟨#[]⟩, .int .u64 0, .int .u64 0, .int .i64 2, .int .i64 14, .string ⟨#[]⟩, .bool false, .string ⟨#[]⟩, .int .u64 0, .int .u64 0, .int .i64 0] rfl HJ.out.d.c.size (by decide)).at, hWX⟩
        clear hWX
        go_wp2_with (at_builtin; rw [← HWX.out.2.2]; refine wpList_append_nd _ rfl _ _ rfl w.heap.size g cp len wr.heap.size 0 2 2 xs [limN, (⟨14, ⟨#[]⟩, false, ⟨#[]⟩, 0, 0, 0⟩ : Nd)] rfl rfl HX.out.1 rfl (HX.out.2.2.below HWX.out.1 HX.out.2.2.lt.2) HWX.out.2.1 ?hl ?hb ?_)
        case hl => rw [← HX.out.1]; simp; omega
        case hb => have h1 := HJ.out.d.c.size; have h2 := HWX.out.1.size; omega
        intro g' cp' w' hO' hgr hat
        have HN : Hid (LimJ base cb bv n w eb g' cp' (len + 2) w' ∧ w.heap.size < g') := by
          have h8 := HJ.out.app HWX.out.1 HX.out.2.1 (es := [limN, (⟨14, ⟨#[]⟩, false, ⟨#[]⟩, 0, 0, 0⟩ : Nd)]) (fun e he => by simp at he; rcases he with rfl | rfl <;> first | exact lim_small | exact small_kind _ (by omega)) hO' hgr hat hgw
          have h9 : (xs ++ [limN, (⟨14, ⟨#[]⟩, false, ⟨#[]⟩, 0, 0, 0⟩ : Nd)]).length = len + 2 := by rw [List.length_append, ← HX.out.1]; rfl
          rw [h9] at h8
          refine ⟨h8, ?_⟩
          rcases hat with q | q
          · rw [q]; exact hgw
          · have h1 := HJ.out.d.c.size; have h2 := HWX.out.1.size; have h3 := HJ.out.res.lt.2; omega
        clear hO' hgr hat b0 b1 b2 b3 b4 b5 b6
        go_wp2_with fail
        go_roundw
        case rel => exact ⟨i + 1, g', cp', len + 2, by omega, by go_num, rfl, ⟨by omega, by omega⟩, HN.out.2, HN.out.1⟩
        case measure => simp [intOf]; omega
      · obtain ⟨WF, hWF⟩ : ∃ WF : World, WF = wr.setCell ⟨w.heap.size, 0, none⟩ (.slice (some ⟨g, 0, none⟩) (len) cp) := ⟨_, rfl⟩
        obtain ⟨p0, HRes⟩ := HJ.out.fin (by omega) (by omega) (by omega) WF hWF
        have HRH : Hid (FilP base cb bv n 1000 w (.returned (.agg #[.slice (some ⟨g, 0, none⟩) (len) cp])) WF) := HRes
        have r0 := HJ.out.res.cell (j := 0) rfl
        have rf := HJ.out.res.frozen 0
        clear HRes
        go_wp2_with fail
        rw [← hWF]
        exact bodyPost_ret (by simp [results, Tryz.results68, go_sem, p0]) rfl HRH.out
  by_cases x1 : x = 1
  · subst x1
    go_wp2_with fail
    go_loopw [6, 9] (fun nv iv wr => ∃ (i g cp len : Nat), (i : Int) ≤ 21 + y ∧ iv = .int .i64 (i : Int) ∧ nv = .slice (some ⟨g, 0, none⟩) len cp ∧ (len ≤ 1 + 2 * i ∧ 0 < len) ∧ w.heap.size < g ∧ Hid (LimJ base cb bv n w eb g cp len wr)) (fun _ iv _ => (21 + y).toNat - (intOf iv).toNat)
    case atStart => exact ⟨0, eb + 1, 1, 1, by omega, rfl, rfl, ⟨by omega, by omega⟩, by have := H4.out.ne.2; omega, H4.out⟩
    case round =>
      obtain ⟨i, g, cp, len, hi, rfl, rfl, hlen, hgw, HJ⟩ := hrel
      by_cases hlt : (i : Int) < 21 + y
      · obtain ⟨xs, hxl, hxs, hxO⟩ := HJ.out.row
        have HX : Hid (len = xs.length ∧ (∀ e ∈ xs, e.small) ∧ OwnNd wr w.heap.size g cp xs) := ⟨hxl, hxs, hxO⟩
        clear hxl hxs hxO
        obtain ⟨b0, b1, b2, b3, b4, b5, b6⟩ := And.intro (HJ.out.leaf.cell (j := 0) rfl) (And.intro (HJ.out.leaf.cell (j := 1) rfl) (And.intro (HJ.out.leaf.cell (j := 2) rfl) (And.intro (HJ.out.leaf.cell (j := 3) rfl) (And.intro (HJ.out.leaf.cell (j := 4) rfl) (And.intro (HJ.out.leaf.cell (j := 5) rfl) (HJ.out.leaf.cell (j := 6) rfl))))))
        simp only at b0 b1 b2 b3 b4 b5 b6
        obtain ⟨WX, hWX⟩ : ∃ WX : World, WX = wr.alloc (Obj.cells #[.int .i64 11, .string ⟨#[]⟩, .bool false, .string ⟨#[]⟩, .int .u64 0, .int .u64 0, .int .i64 2] 65) := ⟨_, rfl⟩
        have HWX : Hid (Below wr.heap.size wr WX ∧ OwnNd WX w.heap.size wr.heap.size 1 [limN] ∧ WX = wr.alloc (Obj.cells #[.int .i64 11, .string ⟨#[]⟩, .bool false, .string ⟨#[]⟩, .int .u64 0, .int .u64 0, .int .i64 2] 65)) := ⟨by rw [hWX]; exact (Below.refl _ _).alloc (Nat.le_refl _) _, by rw [hWX]; exact ownNd_lits wr w.heap.size [limN] #[.int .i64 11, .string ⟨#[]⟩, .bool false, .string ⟨#[]⟩, .int .u64 0, .int .u64 0, .int .i64 2] rfl HJ.out.d.c.size (by decide), hWX⟩
        clear hWX
        go_wp2_with (at_builtin; rw [← HWX.out.2.2]; refine wpList_append_nd _ rfl _ _ rfl w.heap.size wr.heap.size 1 1 g 0 len cp [limN] xs rfl rfl rfl HX.out.1 HWX.out.2.1 (HX.out.2.2.below HWX.out.1 HX.out.2.2.lt.2).at ?hl ?hb ?_)
        case hl => rw [← HX.out.1]; simp; omega
        case hb => have h1 := HJ.out.d.c.size; have h2 := HWX.out.1.size; omega
        intro g4 c4 w4 hO4 hgr4 hat4
        obtain ⟨Q, hQ⟩ : ∃ Q, Q = [limN] ++ xs := ⟨_, rfl⟩
        rw [show limN :: xs = Q from hQ.symm] at hO4
        have HN4 : Hid (OwnNd w4 w.heap.size g4 c4 Q ∧ (∀ e ∈ Q, e.small) ∧ Q.length = 1 + len ∧ LimJ base cb bv n w eb g4 c4 Q.length w4 ∧ w.heap.size < g4) := by
          have hJx : LimJ base cb bv n w eb wr.heap.size 1 1 WX := by
            have h1 := HJ.out.leaf.lt.2
            exact ⟨⟨[limN], rfl, fun e he => by simp at he; subst he; exact lim_small, HWX.out.2.1⟩, HJ.out.leaf.below HWX.out.1, HJ.out.res.below HWX.out.1, HJ.out.d.below HWX.out.1, by omega, HJ.out.ne.2⟩
          have hrr := HJ.out.res.lt.2
          have h8 := hJx.app (Below.refl _ _) (xs := [limN]) (es := xs) (fun e he => by simp at he; subst he; exact lim_small) HX.out.2.1 (by rw [← hQ]; exact hO4) hgr4 hat4 hrr
          rw [← hQ] at h8
          obtain ⟨xs', _, h9, _⟩ := h8.row
          have hsm : ∀ e ∈ Q, e.small := fun e he => by
            rw [hQ] at he
            rcases List.mem_append.1 he with q | q
            · simp at q; subst q; exact lim_small
            · exact HX.out.2.1 e q
          refine ⟨hO4, hsm, by rw [hQ, List.length_append, ← HX.out.1]; rfl, h8, ?_⟩
          rcases hat4 with q | q
          · rw [q]; exact hrr
          · have h2 := HWX.out.1.size; omega
        clear hO4 hgr4 hat4 hQ b0 b1 b2 b3 b4 b5 b6
        obtain ⟨WY, hWY⟩ : ∃ WY : World, WY = w4.alloc (Obj.cells #[.int .i64 15, .string ⟨#[]⟩, .bool false, .string ⟨#[]⟩, .int .u64 0, .int .u64 0, .int .i64 0] 65) := ⟨_, rfl⟩
        have HWY : Hid (Below w4.heap.size w4 WY ∧ NdsAt WY w4.heap.size 0 [(⟨15, ⟨#[]⟩, false, ⟨#[]⟩, 0, 0, 0⟩ : Nd)] ∧ WY = w4.alloc (Obj.cells #[.int .i64 15, .string ⟨#[]⟩, .bool false, .string ⟨#[]⟩, .int .u64 0, .int .u64 0, .int .i64 0] 65)) := ⟨by rw [hWY]; exact (Below.refl _ _).alloc (Nat.le_refl _) _, by rw [hWY]; exact (ownNd_lits w4 w.heap.size [(⟨15, ⟨#[]⟩, false, ⟨#[]⟩, 0, 0, 0⟩ : Nd)] #[.int .i64 15, .string ⟨#[]⟩, .bool false, .string ⟨#[]⟩, .int .u64 0, .int .u64 0, .int .i64 0] rfl HN4.out.2.2.2.1.d.c.size (by decide)).at, hWY⟩
        clear hWY
        go_wp2_with (at_builtin; rw [← HWY.out.2.2]; refine wpList_append_nd _ rfl _ _ rfl w.heap.size g4 c4 (1 + len) w4.heap.size 0 1 1 Q [(⟨15, ⟨#[]⟩, false, ⟨#[]⟩, 0, 0, 0⟩ : Nd)] rfl rfl HN4.out.2.2.1.symm rfl (HN4.out.1.below HWY.out.1 HN4.out.1.lt.2) HWY.out.2.1 ?hl9 ?hb9 ?_)
        case hl9 => rw [HN4.out.2.2.1]; simp; omega
        case hb9 => have h1 := HN4.out.2.2.2.1.d.c.size; have h2 := HWY.out.1.size; omega
        intro g' cp' w' hO' hgr hat
        have HN : Hid (LimJ base cb bv n w eb g' cp' (1 + len + 1) w' ∧ w.heap.size < g') := by
          have h8 := HN4.out.2.2.2.1.app HWY.out.1 HN4.out.2.1 (es := [(⟨15, ⟨#[]⟩, false, ⟨#[]⟩, 0, 0, 0⟩ : Nd)]) (fun e he => by simp at he; subst he; exact small_kind _ (by omega)) hO' hgr hat HN4.out.2.2.2.2
          have h9 : (Q ++ [(⟨15, ⟨#[]⟩, false, ⟨#[]⟩, 0, 0, 0⟩ : Nd)]).length = 1 + len + 1 := by rw [List.length_append, HN4.out.2.2.1]; rfl
          rw [h9] at h8
          refine ⟨h8, ?_⟩
          rcases hat with q | q
          · rw [q]; exact HN4.out.2.2.2.2
          · have h1 := HN4.out.2.2.2.1.d.c.size; have h2 := HWY.out.1.size; have h3 := HN4.out.2.2.2.1.res.lt.2; omega
        clear hO' hgr hat
        go_wp2_with fail
        go_roundw
        case rel => exact ⟨i + 1, g', cp', 1 + len + 1, by omega, by go_num, rfl, ⟨by omega, by omega⟩, HN.out.2, HN.out.1⟩
        case measure => simp [intOf]; omega
      · obtain ⟨WF, hWF⟩ : ∃ WF : World, WF = wr.setCell ⟨w.heap.size, 0, none⟩ (.slice (some ⟨g, 0, none⟩) (len) cp) := ⟨_, rfl⟩
        obtain ⟨p0, HRes⟩ := HJ.out.fin (by omega) (by omega) (by omega) WF hWF
        have HRH : Hid (FilP base cb bv n 1000 w (.returned (.agg #[.slice (some ⟨g, 0, none⟩) (len) cp])) WF) := HRes
        have r0 := HJ.out.res.cell (j := 0) rfl
        have rf := HJ.out.res.frozen 0
        clear HRes
        go_wp2_with fail
        rw [← hWF]
        exact bodyPost_ret (by simp [results, Tryz.results68, go_sem, p0]) rfl HRH.out
  · obtain rfl : x = 2 := by omega
    go_wp2_with fail
    go_loopw [6, 10] (fun nv iv wr => ∃ (i g cp len : Nat), (i : Int) ≤ 20 + y ∧ iv = .int .i64 (i : Int) ∧ nv = .slice (some ⟨g, 0, none⟩) len cp ∧ (len ≤ 1 + 3 * i ∧ 0 < len) ∧ w.heap.size < g ∧ Hid (LimJ base cb bv n w eb g cp len wr)) (fun _ iv _ => (20 + y).toNat - (intOf iv).toNat)
    case atStart => exact ⟨0, eb + 1, 1, 1, by omega, rfl, rfl, ⟨by omega, by omega⟩, by have := H4.out.ne.2; omega, H4.out⟩
    case round =>
      obtain ⟨i, g, cp, len, hi, rfl, rfl, hlen, hgw, HJ⟩ := hrel
      by_cases hlt : (i : Int) < 20 + y
      · obtain ⟨xs, hxl, hxs, hxO⟩ := HJ.out.row
        have HX : Hid (len = xs.length ∧ (∀ e ∈ xs, e.small) ∧ OwnNd wr w.heap.size g cp xs) := ⟨hxl, hxs, hxO⟩
        clear hxl hxs hxO
        obtain ⟨b0, b1, b2, b3, b4, b5, b6⟩ := And.intro (HJ.out.leaf.cell (j := 0) rfl) (And.intro (HJ.out.leaf.cell (j := 1) rfl) (And.intro (HJ.out.leaf.cell (j := 2) rfl) (And.intro (HJ.out.leaf.cell (j := 3) rfl) (And.intro (HJ.out.leaf.cell (j := 4) rfl) (And.intro (HJ.out.leaf.cell (j := 5) rfl) (HJ.out.leaf.cell (j := 6) rfl))))))
        simp only at b0 b1 b2 b3 b4 b5 b6
        obtain ⟨WX, hWX⟩ : ∃ WX : World, WX = wr.alloc (Obj.cells #[.int .i64 11, .string ⟨#[]⟩, .bool false, .string ⟨#[]⟩, .int .u64 0, .int .u64 0, .int .i64 2, .int .i64 11, .string ⟨#[]⟩, .bool false, .string ⟨#[]⟩, .int .u64 0, .int .u64 0, .int .i64 2, .int .i64 16, .string ⟨#[]⟩, .bool false, .string ⟨#[]⟩, .int .u64 0, .int .u64 0, .int .i64 0] 65) := ⟨_, rfl⟩
        have HWX : Hid (Below wr.heap.size wr WX ∧ NdsAt WX wr.heap.size 0 [limN, limN, (⟨16, ⟨#[]⟩, false, ⟨#[]⟩, 0, 0, 0⟩ : Nd)] ∧ WX = wr.alloc (Obj.cells #[.int .i64 11, .string ⟨#[]⟩, .bool false, .string ⟨#[]⟩, .int .u64 0, .int .u64 0, .int .i64 2, .int .i64 11, .string ⟨#[]⟩, .bool false, .string ⟨#[]⟩, .int .u64 0, .int .u64 0, .int .i64 2, .int .i64 16, .string ⟨#[]⟩, .bool false, .string ⟨#[]⟩, .int .u64 0, .int .u64 0, .int .i64 0] 65)) := ⟨by rw [hWX]; exact (Below.refl _ _).alloc (Nat.le_refl _) _, by rw [hWX]; exact (ownNd_lits wr w.heap.size [limN, limN, (⟨16, ⟨#[]⟩, false, ⟨#[]⟩, 0, 0, 0⟩ : Nd)] #[.int .i64 11, .string ⟨#[]⟩, .bool false, .string ⟨#[]⟩, .int .u64 0, .int .u64 0, .int .i64 2, .int .i64 11, .string ⟨#[]⟩, .bool false, .string ⟨#[]⟩, .int .u64 0, .int .u64 0, .int .i64 2, .int .i64 16, .string ⟨#[]⟩, .bool false, .string ⟨#[]⟩, .int .u64 0, .int .u64 0, .int .i64 0] rfl HJ.out.d.c.size (by decide)).at, hWX⟩
        clear hWX
        go_wp2_with (at_builtin; rw [← HWX.out.2.2]; refine wpList_append_nd _ rfl _ _ rfl w.heap.size g cp len wr.heap.size 0 3 3 xs [limN, limN, (⟨16, ⟨#[]⟩, false, ⟨#[]⟩, 0, 0, 0⟩ : Nd)] rfl rfl HX.out.1 rfl (HX.out.2.2.below HWX.out.1 HX.out.2.2.lt.2) HWX.out.2.1 ?hl ?hb ?_)
        case hl => rw [← HX.out.1]; simp; omega
        case hb => have h1 := HJ.out.d.c.size; have h2 := HWX.out.1.size; omega
        intro g' cp' w' hO' hgr hat
        have HN : Hid (LimJ base cb bv n w eb g' cp' (len + 3) w' ∧ w.heap.size < g') := by
          have h8 := HJ.out.app HWX.out.1 HX.out.2.1 (es := [limN, limN, (⟨16, ⟨#[]⟩, false, ⟨#[]⟩, 0, 0, 0⟩ : Nd)]) (fun e he => by simp at he; rcases he with rfl | rfl <;> first | exact lim_small | exact small_kind _ (by omega)) hO' hgr hat hgw
          have h9 : (xs ++ [limN, limN, (⟨16, ⟨#[]⟩, false, ⟨#[]⟩, 0, 0, 0⟩ : Nd)]).length = len + 3 := by rw [List.length_append, ← HX.out.1]; rfl
          rw [h9] at h8
          refine ⟨h8, ?_⟩
          rcases hat with q | q
          · rw [q]; exact hgw
          · have h1 := HJ.out.d.c.size; have h2 := HWX.out.1.size; have h3 := HJ.out.res.lt.2; omega
        clear hO' hgr hat b0 b1 b2 b3 b4 b5 b6
        go_wp2_with fail
        go_roundw
        case rel => exact ⟨i + 1, g', cp', len + 3, by omega, by go_num, rfl, ⟨by omega, by omega⟩, HN.out.2, HN.out.1⟩
        case measure => simp [intOf]; omega
      · obtain ⟨WF, hWF⟩ : ∃ WF : World, WF = wr.setCell ⟨w.heap.size, 0, none⟩ (.slice (some ⟨g, 0, none⟩) (len) cp) := ⟨_, rfl⟩
        obtain ⟨p0, HRes⟩ := HJ.out.fin (by omega) (by omega) (by omega) WF hWF
        have HRH : Hid (FilP base cb bv n 1000 w (.returned (.agg #[.slice (some ⟨g, 0, none⟩) (len) cp])) WF) := HRes
        have r0 := HJ.out.res.cell (j := 0) rfl
        have rf := HJ.out.res.frozen 0
        clear HRes
        go_wp2_with fail
        rw [← hWF]
        exact bodyPost_ret (by simp [results, Tryz.results68, go_sem, p0]) rfl HRH.out
end Go.Proofs.YtgnpcenpcmdlfaaGreatDoor

/-
  The draws: a filter spoilt.
-/
namespace Go.Proofs.YtgnpcenpcmdlfaaGreatDoor
open Go.ChangeShapes Go.WideShapes Go.ChangeAt Go.RowKit Go.Deep
set_option linter.unusedVariables false
set_option linter.unusedSimpArgs false
set_option maxRecDepth 100000

/-- A filter drawn, its nodes anywhere in memory of the call's own. -/
def AnyP (base cb : Nat) (bv : Value) (n : Nat) (w : World) (e : Ending) (w' : World) : Prop := ∃ (b o c : Nat) (ys : List Nd), e = .returned (.agg #[.slice (some ⟨b, o, none⟩) ys.length c]) ∧ ys.length ≤ 1001 ∧ Hid ((∀ e ∈ ys, e.ok) ∧ NdsAt w' b o ys ∧ (w.heap.size ≤ b ∧ b < w'.heap.size) ∧ (ys.length ≤ c ∧ c ≤ maxLen) ∧ DInv base cb bv n w w')
theorem FilP.any {base cb : Nat} {bv : Value} {n m : Nat} {w : World} {e : Ending} {w' : World} (h : FilP base cb bv n m w e w') (hm : m ≤ 1001) : AnyP base cb bv n w e w' := by
  obtain ⟨g, cp, xs, rfl, hl, _, H⟩ := h
  exact ⟨g, 0, cp, xs, rfl, by omega, fun e he => (H.out.1 e he).ok, H.out.2.1.at, H.out.2.1.lt, H.out.2.1.caps, H.out.2.2⟩
theorem wf_n {x : Int} (h : 0 ≤ x ∧ x ≤ 100000) : (Lit.int .i64 (x + 1000)).wf = true := by
  have h1 : IntKind.i64.min = -9223372036854775808 := by decide
  have h2 : IntKind.i64.max = 9223372036854775807 := by decide
  simp [Lit.wf, h1, h2]; omega
/-- Spoiling under way. -/
structure SpJ (base cb : Nat) (bv : Value) (n : Nat) (w : World) (eb g cp : Nat) (xs : List Nd) (f : Nd) (wr : World) : Prop where
  row : OwnNd wr w.heap.size g cp xs
  e : BoxAt wr w.heap.size 65 7 eb f.seven
  res : BoxAt wr w.heap.size 25 1 (w.heap.size + 1) [.slice none 0 0]
  d : DInv base cb bv n w wr
  ne : ¬ g = eb ∧ w.heap.size + 1 < g ∧ w.heap.size + 1 < eb
  ok : f.ok
theorem SpJ.call {base cb : Nat} {bv : Value} {n : Nat} {w : World} {eb g cp : Nat} {xs : List Nd} {f : Nd} {wr w1 : World} (h : SpJ base cb bv n w eb g cp xs f wr) (hd : Drew base cb bv n wr w1) : SpJ base cb bv n w eb g cp xs f w1 := by
  have hl := h.d.lt
  have h1 := h.ne
  exact ⟨h.row.chg hd.2 (by omega), h.e.chg hd.2 (by omega), h.res.chg hd.2 (by omega), h.d.call hd, h.ne, h.ok⟩
theorem SpJ.below {base cb : Nat} {bv : Value} {n : Nat} {w : World} {eb g cp : Nat} {xs : List Nd} {f : Nd} {wr w1 : World} (h : SpJ base cb bv n w eb g cp xs f wr) (hd : Below wr.heap.size wr w1) : SpJ base cb bv n w eb g cp xs f w1 := ⟨h.row.below hd h.row.lt.2, h.e.below hd, h.res.below hd, h.d.below hd, h.ne, h.ok⟩
theorem SpJ.set {base cb : Nat} {bv : Value} {n : Nat} {w : World} {eb g cp : Nat} {xs : List Nd} {f : Nd} {wr : World} (h : SpJ base cb bv n w eb g cp xs f wr) (j : Nat) (f' : Nd) (u : Value) (hc : f'.seven = f.seven.set j u) (ho : f'.ok) : SpJ base cb bv n w eb g cp xs f' (wr.setCell ⟨eb, j, none⟩ u) := by
  have h1 := h.e.set j u
  rw [← hc] at h1
  have hn := h.ne
  have hcg : Chg (fun k => k = eb) wr (wr.setCell ⟨eb, j, none⟩ u) := Chg.of_set _ _ _ _ rfl
  exact ⟨h.row.chg hcg hn.1, h1, h.res.chg hcg (by omega), h.d.grow (grown_set wr eb j u) (fun k q => by cases q; omega), hn, ho⟩
/-- The node is put back, and the nodes are handed out. -/
theorem SpJ.back {base cb : Nat} {bv : Value} {n : Nat} {w : World} {eb g cp : Nat} {xs : List Nd} {f : Nd} {wr : World} (h : SpJ base cb bv n w eb g cp xs f wr) (hx : ∀ e ∈ xs, e.ok) (hl : xs.length ≤ 1000) {i : Nat} {e0 : Nd} (he : xs[i]? = some e0) (W9 : World)
    (h9 : W9 = (((((((wr.setCell ⟨g, i * 7, none⟩ (.int .i64 f.kind)).setCell ⟨g, i * 7 + 1, none⟩ (.string f.s)).setCell ⟨g, i * 7 + 2, none⟩ (.bool f.hi)).setCell ⟨g, i * 7 + 3, none⟩ (.string f.t)).setCell ⟨g, i * 7 + 4, none⟩ (.int .u64 f.lo)).setCell ⟨g, i * 7 + 5, none⟩ (.int .u64 f.up)).setCell ⟨g, i * 7 + 6, none⟩ (.int .i64 f.n))) :
    BoxAt W9 w.heap.size 25 1 (w.heap.size + 1) [.slice none 0 0] ∧ ∀ N WF, N = xs.length → WF = W9.setCell ⟨w.heap.size + 1, 0, none⟩ (.slice (some ⟨g, 0, none⟩) N cp) → WF.cell? ⟨w.heap.size + 1, 0, none⟩ = some (.slice (some ⟨g, 0, none⟩) N cp) ∧ AnyP base cb bv n w (.returned (.agg #[.slice (some ⟨g, 0, none⟩) N cp])) WF := by
  have hn := h.ne
  have hO9 := h.row.put i e0 f he
  rw [← h9] at hO9
  have hc9 : Chg (fun k => k = g) wr W9 := by
    rw [h9]
    exact ((((((Chg.of_set (S := fun k => k = g) _ _ _ _ rfl).trans (Chg.of_set (S := fun k => k = g) _ _ _ _ rfl)).trans (Chg.of_set (S := fun k => k = g) _ _ _ _ rfl)).trans (Chg.of_set (S := fun k => k = g) _ _ _ _ rfl)).trans (Chg.of_set (S := fun k => k = g) _ _ _ _ rfl)).trans (Chg.of_set (S := fun k => k = g) _ _ _ _ rfl)).trans (Chg.of_set (S := fun k => k = g) _ _ _ _ rfl)
  have hr9 := h.res.chg hc9 (by omega)
  have hd9 : DInv base cb bv n w W9 := by
    have hlt := h.d.lt
    have hbb := h.d.hb
    exact ⟨h.d.d.chg hc9 (by omega) (fun k q => by omega), ⟨hc9.os.trans h.d.c.os, hc9.tape.trans h.d.c.tape, hc9.output.trans h.d.c.output, Nat.le_trans h.d.c.size hc9.size, fun k hk hnk => (hc9.block k (Nat.lt_of_lt_of_le hk h.d.c.size) (by omega)).trans (h.d.c.block k hk hnk)⟩, hlt, hbb⟩
  refine ⟨hr9, fun N WF hN hWF => ?_⟩
  subst hN
  have hcF : Chg (fun k => k = w.heap.size + 1) W9 WF := by rw [hWF]; exact Chg.of_set _ _ _ _ rfl
  have hOF := hO9.chg hcF (by omega)
  refine ⟨by rw [hWF]; exact (hr9.set 0 (.slice (some ⟨g, 0, none⟩) xs.length cp)).cell (j := 0) rfl, g, 0, cp, xs.set i f, by rw [List.length_set], by rw [List.length_set]; omega, fun e he => ?_, hOF.at, ⟨by have := hOF.lt.1; omega, hOF.lt.2⟩, by have h8 := hOF.caps; exact h8, ?_⟩
  · rcases List.mem_or_eq_of_mem_set he with q | q
    · exact hx e q
    · rw [q]; exact h.ok
  · rw [hWF]
    exact hd9.grow (grown_set W9 (w.heap.size + 1) 0 _) (fun k q => by cases q; omega)
theorem nds_drop {w : World} {b : Nat} {xs : List Nd} (h : NdsAt w b 0 xs) : NdsAt w b 7 (xs.drop 1) := by
  intro i e he
  rw [List.getElem?_drop] at he
  have := h (1 + i) e he
  rw [show 0 + (1 + i) * 7 = 7 + i * 7 by omega] at this
  exact this
theorem SpJ.cut {base cb : Nat} {bv : Value} {n : Nat} {w : World} {eb g cp : Nat} {xs : List Nd} {f : Nd} {wr : World} (h : SpJ base cb bv n w eb g cp xs f wr) (ys : List Nd) (o m c : Nat) (hy : NdsAt wr g o ys) (hok : ∀ e ∈ ys, e.ok) (hm : m = ys.length) (hl : m ≤ 1001 ∧ m ≤ c) (hc : c ≤ maxLen) (WF : World) (hWF : WF = wr.setCell ⟨w.heap.size + 1, 0, none⟩ (.slice (some ⟨g, o, none⟩) m c)) :
    WF.cell? ⟨w.heap.size + 1, 0, none⟩ = some (.slice (some ⟨g, o, none⟩) m c) ∧ AnyP base cb bv n w (.returned (.agg #[.slice (some ⟨g, o, none⟩) m c])) WF := by
  subst hm
  have hn := h.ne
  have hgl := h.row.lt.2
  have hcF : Chg (fun k => k = w.heap.size + 1) wr WF := by rw [hWF]; exact Chg.of_set _ _ _ _ rfl
  refine ⟨by rw [hWF]; exact (h.res.set 0 (.slice (some ⟨g, o, none⟩) ys.length c)).cell (j := 0) rfl, g, o, c, ys, rfl, hl.1, hok, fun i e he => ?_, ⟨by omega, Nat.lt_of_lt_of_le hgl hcF.size⟩, ⟨hl.2, hc⟩, by rw [hWF]; exact h.d.grow (grown_set wr (w.heap.size + 1) 0 _) (fun k q => by cases q; omega)⟩
  obtain ⟨e0, e1, e2, e3, e4, e5, e6⟩ := hy i e he
  exact ⟨(hcF.cell (p := ⟨g, o + i * 7, none⟩) hgl (by show ¬ g = _; omega)).trans e0, (hcF.cell (p := ⟨g, o + i * 7 + 1, none⟩) hgl (by show ¬ g = _; omega)).trans e1, (hcF.cell (p := ⟨g, o + i * 7 + 2, none⟩) hgl (by show ¬ g = _; omega)).trans e2, (hcF.cell (p := ⟨g, o + i * 7 + 3, none⟩) hgl (by show ¬ g = _; omega)).trans e3, (hcF.cell (p := ⟨g, o + i * 7 + 4, none⟩) hgl (by show ¬ g = _; omega)).trans e4, (hcF.cell (p := ⟨g, o + i * 7 + 5, none⟩) hgl (by show ¬ g = _; omega)).trans e5, (hcF.cell (p := ⟨g, o + i * 7 + 6, none⟩) hgl (by show ¬ g = _; omega)).trans e6⟩
theorem Nd.ok.with {f : Nd} (h : f.ok) : f.ok := h
set_option maxHeartbeats 16000000 in
theorem drawSpoil_core (base cb : Nat) (bv : Value) (n : Nat) (w : World) (h : DrawAt base cb bv n w) {b0 g cp : Nat} {xs : List Nd} (hO : OwnNd w b0 g cp xs) (hs : ∀ e ∈ xs, e.small) (hl : xs.length ≤ 1000) (h0 : 0 < xs.length) :
    Calls Tryz.prog 70 #[.pointer (some ⟨cb, 0, none⟩), .agg #[.slice (some ⟨g, 0, none⟩) xs.length cp]] w (AnyP base cb bv n w) := by
  have HX : Hid (OwnNd w b0 g cp xs ∧ (∀ e ∈ xs, e.small)) := ⟨hO, hs⟩
  obtain ⟨N, hN⟩ : ∃ N, N = xs.length := ⟨_, rfl⟩
  have HN : Hid (N = xs.length) := hN
  rw [← hN] at hl h0 ⊢
  have hcp : cp ≤ 9223372036854775807 := by have := hO.caps; unfold maxLen at this; omega
  have hNc : N ≤ cp := by have := hO.caps; omega
  obtain ⟨W0, hW0⟩ : ∃ W0 : World, W0 = (w.alloc (Obj.cells #[.slice (some ⟨g, 0, none⟩) N cp] 25)).alloc (Obj.cells #[.slice none 0 0] 25) := ⟨_, rfl⟩
  have hz0 : W0.heap.size = w.heap.size + 1 + 1 := by rw [hW0]; simp
  have H0 : Hid (DInv base cb bv n w W0 ∧ BoxAt W0 w.heap.size 25 1 w.heap.size [.slice (some ⟨g, 0, none⟩) N cp] ∧ BoxAt W0 w.heap.size 25 1 (w.heap.size + 1) [.slice none 0 0] ∧ OwnNd W0 b0 g cp xs) := by
    have b1 := boxAt_new w (base := w.heap.size) (t := 25) (sz := 1) #[.slice (some ⟨g, 0, none⟩) N cp] (Nat.le_refl _) rfl
    obtain ⟨X, hX⟩ : ∃ X, X = w.alloc (Obj.cells #[.slice (some ⟨g, 0, none⟩) N cp] 25) := ⟨_, rfl⟩
    rw [← hX] at b1 hW0
    have zx : X.heap.size = w.heap.size + 1 := by rw [hX]; simp
    have k1 : Below w.heap.size w X := by rw [hX]; exact (Below.refl _ _).alloc (Nat.le_refl _) _
    have k2 : Below X.heap.size X W0 := by rw [hW0]; exact (Below.refl _ _).alloc (Nat.le_refl _) _
    have b2 := boxAt_new X (base := w.heap.size) (t := 25) (sz := 1) #[.slice none 0 0] (by omega) rfl
    rw [← hW0, zx] at b2
    exact ⟨((DInv.start h).below k1).below k2, b1.below k2, b2, (hO.below k1 hO.lt.2).below k2 (by have := hO.lt.2; omega)⟩
  clear h hO hs hN
  have hNb : ((N : Int) == 0) = false := by rw [beq_eq_false_iff_ne]; omega
  have c0 := H0.out.2.1.cell (j := 0) rfl
  go_enter Tryz.func70, Tryz.ntmps70
  go_upto_region 1 with fail
  rw [← hW0]
  clear hW0
  obtain ⟨W1, hW1⟩ : ∃ W1 : World, W1 = W0.alloc (Obj.cells #[] 65) := ⟨_, rfl⟩
  have HW1 : Hid (Below W0.heap.size W0 W1 ∧ OwnNd W1 w.heap.size W0.heap.size 0 [] ∧ W1 = W0.alloc (Obj.cells #[] 65)) := ⟨by rw [hW1]; exact (Below.refl _ _).alloc (Nat.le_refl _) _, by rw [hW1]; exact ownNd_lits W0 w.heap.size [] #[] rfl (by omega) (by decide), hW1⟩
  clear hW1
  have HZ : Hid (W0.heap.size = w.heap.size + 1 + 1) := hz0
  clear hz0
  go_upto_region 3 with fail
  clear c0
  have c1 : (W0.alloc (Obj.cells #[] 65)).cell? ⟨w.heap.size, 0, none⟩ = some (.slice (some ⟨g, 0, none⟩) N cp) := by
    rw [← HW1.out.2.2]; exact (H0.out.2.1.below HW1.out.1).cell (j := 0) rfl
  go_wp2_with (at_builtin; rw [← HW1.out.2.2]; refine wpList_append_nd _ rfl _ _ rfl w.heap.size W0.heap.size 0 0 g 0 N cp [] xs rfl rfl rfl HN.out HW1.out.2.1 (H0.out.2.2.2.below HW1.out.1 H0.out.2.2.2.lt.2).at ?hl ?hb ?_)
  case hl => rw [← HN.out]; simp; omega
  case hb => have h1 := HW1.out.1.size; have h2 := HZ.out; omega
  intro g5 c5 w5 hO5 hgr5 hat5
  have H5 : Hid (DInv base cb bv n w w5 ∧ OwnNd w5 w.heap.size g5 c5 xs ∧ BoxAt w5 w.heap.size 25 1 (w.heap.size + 1) [.slice none 0 0] ∧ w.heap.size + 1 < g5) := by
    have hz := HZ.out
    have hc5 : Chg (fun k => k = W0.heap.size) W1 w5 := Chg.of_grown hgr5 (fun k q => by cases q; rfl)
    refine ⟨(H0.out.1.below HW1.out.1).grow hgr5 (fun k q => by cases q; omega), by simpa using hO5, (H0.out.2.2.1.below HW1.out.1).chg hc5 (by omega), ?_⟩
    rcases hat5 with q | q
    · omega
    · have := HW1.out.1.size; omega
  have hg5 := H5.out.2.1.lt
  have hc5 : N ≤ c5 ∧ c5 ≤ 9223372036854775807 := by have := H5.out.2.1.caps; unfold maxLen at this; have := HN.out; omega
  clear hO5 hgr5 hat5 c1
  try simp only [Nat.zero_add]
  go_wp2_with fail
  refine (below_core base cb bv n (N : Int) _ H5.out.1.d (by omega) (by omega)).mono ?_
  rintro e w6 ⟨ii, rfl, hi0, hi1, hd6⟩
  obtain ⟨i, rfl⟩ : ∃ k : Nat, ii = (k : Int) := ⟨ii.toNat, by omega⟩
  have hiN : i < N := by omega
  obtain ⟨f, hf⟩ : ∃ f, xs[i]? = some f := ⟨_, List.getElem?_eq_getElem (by have := HN.out; omega)⟩
  have H6 : Hid (DInv base cb bv n w w6 ∧ OwnNd w6 w.heap.size g5 c5 xs ∧ BoxAt w6 w.heap.size 25 1 (w.heap.size + 1) [.slice none 0 0] ∧ xs[i]? = some f) := by
    have hcl := H5.out.1.lt
    exact ⟨H5.out.1.call hd6, H5.out.2.1.chg hd6.2 (by omega), H5.out.2.2.1.chg hd6.2 (by omega), hf⟩
  have hs6 := hd6.2.size
  obtain ⟨d0, d1, d2, d3, d4, d5, d6⟩ := H6.out.2.1.at i f hf
  simp only [Nat.zero_add] at d0 d1 d2 d3 d4 d5 d6
  clear hd6 hf
  obtain ⟨eb, heb⟩ : ∃ eb, eb = w6.heap.size := ⟨_, rfl⟩
  obtain ⟨W7, hW7⟩ : ∃ W7 : World, W7 = w6.alloc (Obj.cells #[.int .i64 f.kind, .string f.s, .bool f.hi, .string f.t, .int .u64 f.lo, .int .u64 f.up, .int .i64 f.n] 65) := ⟨_, rfl⟩
  have H7 : Hid (SpJ base cb bv n w eb g5 c5 xs f W7) := by
    have k7 : Below w6.heap.size w6 W7 := by rw [hW7]; exact (Below.refl _ _).alloc (Nat.le_refl _) _
    have b7 : BoxAt W7 w.heap.size 65 7 eb f.seven := by rw [hW7, heb]; exact boxAt_new w6 #[.int .i64 f.kind, .string f.s, .bool f.hi, .string f.t, .int .u64 f.lo, .int .u64 f.up, .int .i64 f.n] H6.out.1.c.size rfl
    exact ⟨H6.out.2.1.below k7 H6.out.2.1.lt.2, b7, H6.out.2.2.1.below k7, H6.out.1.below k7, ⟨by omega, H5.out.2.2.2, by have := H6.out.2.2.1.lt.2; omega⟩, (HX.out.2 f (List.mem_of_getElem? H6.out.2.2.2)).ok⟩
  have HSm : Hid (f.small ∧ xs[i]? = some f) := ⟨HX.out.2 f (List.mem_of_getElem? H6.out.2.2.2), H6.out.2.2.2⟩
  go_upto_region 6 with fail
  rw [← hW7, ← heb]
  clear hW7 heb d0 d1 d2 d3 d4 d5 d6 H6 H5 H0 HW1
  go_wp2_with fail
  refine (below_core base cb bv n 10 _ H7.out.d.d (by omega) (by omega)).mono ?_
  rintro e w8 ⟨x, rfl, hx0, hx1, hd8⟩
  have H8 : Hid (SpJ base cb bv n w eb g5 c5 xs f w8) := H7.out.call hd8
  clear hd8 H7
  by_cases x0 : x = 0
  · subst x0
    go_wp2_with fail
    refine (below_core base cb bv n 18 _ H8.out.d.d (by omega) (by omega)).mono ?_
    rintro e w9 ⟨q, rfl, hq0, hq1, hd9⟩
    have H9 : Hid (SpJ base cb bv n w eb g5 c5 xs f w9) := H8.out.call hd9
    clear hd9
    have z1 := H9.out.e.cell (j := 0) rfl
    have z2 := H9.out.e.frozen 0
    obtain ⟨WA, hWA⟩ : ∃ WA : World, WA = w9.setCell ⟨eb, 0, none⟩ (.int .i64 q) := ⟨_, rfl⟩
    have HA : Hid (SpJ base cb bv n w eb g5 c5 xs (⟨q, f.s, f.hi, f.t, f.lo, f.up, f.n⟩ : Nd) WA) := by rw [hWA]; exact H9.out.set 0 _ _ rfl ⟨H8.out.ok.s, H8.out.ok.t, (wf_i64 (x := q) ⟨hq0, by omega⟩), H8.out.ok.lo, H8.out.ok.up, H8.out.ok.n⟩
    go_upto_region 27 with fail
    rw [← hWA]
    clear hWA z1 z2
    obtain ⟨k0, k1, k2, k3, k4, k5, k6⟩ := And.intro (HA.out.e.cell (j := 0) rfl) (And.intro (HA.out.e.cell (j := 1) rfl) (And.intro (HA.out.e.cell (j := 2) rfl) (And.intro (HA.out.e.cell (j := 3) rfl) (And.intro (HA.out.e.cell (j := 4) rfl) (And.intro (HA.out.e.cell (j := 5) rfl) (HA.out.e.cell (j := 6) rfl))))))
    simp only at k0 k1 k2 k3 k4 k5 k6
    obtain ⟨d0, d1, d2, d3, d4, d5, d6⟩ := HA.out.row.at i _ HSm.out.2
    simp only [Nat.zero_add] at d0 d1 d2 d3 d4 d5 d6
    have hfz := fun j => World.ownsRow.frozenAt HA.out.row j
    obtain ⟨WP, hWP⟩ : ∃ WP : World, WP = (((((((WA.setCell ⟨g5, i * 7, none⟩ (.int .i64 q)).setCell ⟨g5, i * 7 + 1, none⟩ (.string f.s)).setCell ⟨g5, i * 7 + 2, none⟩ (.bool f.hi)).setCell ⟨g5, i * 7 + 3, none⟩ (.string f.t)).setCell ⟨g5, i * 7 + 4, none⟩ (.int .u64 f.lo)).setCell ⟨g5, i * 7 + 5, none⟩ (.int .u64 f.up)).setCell ⟨g5, i * 7 + 6, none⟩ (.int .i64 f.n)) := ⟨_, rfl⟩
    have HB := HA.out.back (fun e he => (HX.out.2 e he).ok) (by rw [← HN.out]; exact hl) HSm.out.2 WP hWP
    have HBH : Hid (BoxAt WP w.heap.size 25 1 (w.heap.size + 1) [.slice none 0 0]) := HB.1
    obtain ⟨WF, hWF⟩ : ∃ WF : World, WF = WP.setCell ⟨w.heap.size + 1, 0, none⟩ (.slice (some ⟨g5, 0, none⟩) N c5) := ⟨_, rfl⟩
    have HR : Hid (WF.cell? ⟨w.heap.size + 1, 0, none⟩ = some (.slice (some ⟨g5, 0, none⟩) N c5) ∧ AnyP base cb bv n w (.returned (.agg #[.slice (some ⟨g5, 0, none⟩) N c5])) WF) := HB.2 N WF HN.out hWF
    clear HB
    go_upto_region 28 with fail
    rw [← hWP]
    clear hWP k0 k1 k2 k3 k4 k5 k6 d0 d1 d2 d3 d4 d5 d6 hfz
    have r0 := HBH.out.cell (j := 0) rfl
    have rf := HBH.out.frozen 0
    have p0 := HR.out.1
    go_wp2_with fail
    rw [← hWF]
    exact bodyPost_ret (by simp [results, Tryz.results70, go_sem, p0]) rfl HR.out.2
  by_cases x1 : x = 1
  · subst x1
    have z1 := H8.out.e.cell (j := 1) rfl
    have z2 := H8.out.e.frozen 1
    obtain ⟨WA, hWA⟩ : ∃ WA : World, WA = w8.setCell ⟨eb, 1, none⟩ (.string ⟨#[40, 97]⟩) := ⟨_, rfl⟩
    have HA : Hid (SpJ base cb bv n w eb g5 c5 xs (⟨f.kind, ⟨#[40, 97]⟩, f.hi, f.t, f.lo, f.up, f.n⟩ : Nd) WA) := by rw [hWA]; exact H8.out.set 1 _ _ rfl ⟨(by show (2 : Nat) ≤ maxLen; decide), H8.out.ok.t, H8.out.ok.kind, H8.out.ok.lo, H8.out.ok.up, H8.out.ok.n⟩
    go_upto_region 27 with fail
    rw [← hWA]
    clear hWA z1 z2
    obtain ⟨k0, k1, k2, k3, k4, k5, k6⟩ := And.intro (HA.out.e.cell (j := 0) rfl) (And.intro (HA.out.e.cell (j := 1) rfl) (And.intro (HA.out.e.cell (j := 2) rfl) (And.intro (HA.out.e.cell (j := 3) rfl) (And.intro (HA.out.e.cell (j := 4) rfl) (And.intro (HA.out.e.cell (j := 5) rfl) (HA.out.e.cell (j := 6) rfl))))))
    simp only at k0 k1 k2 k3 k4 k5 k6
    obtain ⟨d0, d1, d2, d3, d4, d5, d6⟩ := HA.out.row.at i _ HSm.out.2
    simp only [Nat.zero_add] at d0 d1 d2 d3 d4 d5 d6
    have hfz := fun j => World.ownsRow.frozenAt HA.out.row j
    obtain ⟨WP, hWP⟩ : ∃ WP : World, WP = (((((((WA.setCell ⟨g5, i * 7, none⟩ (.int .i64 f.kind)).setCell ⟨g5, i * 7 + 1, none⟩ (.string ⟨#[40, 97]⟩)).setCell ⟨g5, i * 7 + 2, none⟩ (.bool f.hi)).setCell ⟨g5, i * 7 + 3, none⟩ (.string f.t)).setCell ⟨g5, i * 7 + 4, none⟩ (.int .u64 f.lo)).setCell ⟨g5, i * 7 + 5, none⟩ (.int .u64 f.up)).setCell ⟨g5, i * 7 + 6, none⟩ (.int .i64 f.n)) := ⟨_, rfl⟩
    have HB := HA.out.back (fun e he => (HX.out.2 e he).ok) (by rw [← HN.out]; exact hl) HSm.out.2 WP hWP
    have HBH : Hid (BoxAt WP w.heap.size 25 1 (w.heap.size + 1) [.slice none 0 0]) := HB.1
    obtain ⟨WF, hWF⟩ : ∃ WF : World, WF = WP.setCell ⟨w.heap.size + 1, 0, none⟩ (.slice (some ⟨g5, 0, none⟩) N c5) := ⟨_, rfl⟩
    have HR : Hid (WF.cell? ⟨w.heap.size + 1, 0, none⟩ = some (.slice (some ⟨g5, 0, none⟩) N c5) ∧ AnyP base cb bv n w (.returned (.agg #[.slice (some ⟨g5, 0, none⟩) N c5])) WF) := HB.2 N WF HN.out hWF
    clear HB
    go_upto_region 28 with fail
    rw [← hWP]
    clear hWP k0 k1 k2 k3 k4 k5 k6 d0 d1 d2 d3 d4 d5 d6 hfz
    have r0 := HBH.out.cell (j := 0) rfl
    have rf := HBH.out.frozen 0
    have p0 := HR.out.1
    go_wp2_with fail
    rw [← hWF]
    exact bodyPost_ret (by simp [results, Tryz.results70, go_sem, p0]) rfl HR.out.2
  by_cases x2 : x = 2
  · subst x2
    have hfn := HSm.out.1.n
    have z1 := H8.out.e.cell (j := 6) rfl
    have z2 := H8.out.e.frozen 6
    obtain ⟨WA, hWA⟩ : ∃ WA : World, WA = w8.setCell ⟨eb, 6, none⟩ (.int .i64 (f.n + 1000)) := ⟨_, rfl⟩
    have HA : Hid (SpJ base cb bv n w eb g5 c5 xs (⟨f.kind, f.s, f.hi, f.t, f.lo, f.up, (f.n + 1000)⟩ : Nd) WA) := by rw [hWA]; exact H8.out.set 6 _ _ rfl ⟨H8.out.ok.s, H8.out.ok.t, H8.out.ok.kind, H8.out.ok.lo, H8.out.ok.up, (wf_n hfn)⟩
    go_upto_region 27 with fail
    rw [← hWA]
    clear hWA z1 z2
    obtain ⟨k0, k1, k2, k3, k4, k5, k6⟩ := And.intro (HA.out.e.cell (j := 0) rfl) (And.intro (HA.out.e.cell (j := 1) rfl) (And.intro (HA.out.e.cell (j := 2) rfl) (And.intro (HA.out.e.cell (j := 3) rfl) (And.intro (HA.out.e.cell (j := 4) rfl) (And.intro (HA.out.e.cell (j := 5) rfl) (HA.out.e.cell (j := 6) rfl))))))
    simp only at k0 k1 k2 k3 k4 k5 k6
    obtain ⟨d0, d1, d2, d3, d4, d5, d6⟩ := HA.out.row.at i _ HSm.out.2
    simp only [Nat.zero_add] at d0 d1 d2 d3 d4 d5 d6
    have hfz := fun j => World.ownsRow.frozenAt HA.out.row j
    obtain ⟨WP, hWP⟩ : ∃ WP : World, WP = (((((((WA.setCell ⟨g5, i * 7, none⟩ (.int .i64 f.kind)).setCell ⟨g5, i * 7 + 1, none⟩ (.string f.s)).setCell ⟨g5, i * 7 + 2, none⟩ (.bool f.hi)).setCell ⟨g5, i * 7 + 3, none⟩ (.string f.t)).setCell ⟨g5, i * 7 + 4, none⟩ (.int .u64 f.lo)).setCell ⟨g5, i * 7 + 5, none⟩ (.int .u64 f.up)).setCell ⟨g5, i * 7 + 6, none⟩ (.int .i64 (f.n + 1000))) := ⟨_, rfl⟩
    have HB := HA.out.back (fun e he => (HX.out.2 e he).ok) (by rw [← HN.out]; exact hl) HSm.out.2 WP hWP
    have HBH : Hid (BoxAt WP w.heap.size 25 1 (w.heap.size + 1) [.slice none 0 0]) := HB.1
    obtain ⟨WF, hWF⟩ : ∃ WF : World, WF = WP.setCell ⟨w.heap.size + 1, 0, none⟩ (.slice (some ⟨g5, 0, none⟩) N c5) := ⟨_, rfl⟩
    have HR : Hid (WF.cell? ⟨w.heap.size + 1, 0, none⟩ = some (.slice (some ⟨g5, 0, none⟩) N c5) ∧ AnyP base cb bv n w (.returned (.agg #[.slice (some ⟨g5, 0, none⟩) N c5])) WF) := HB.2 N WF HN.out hWF
    clear HB
    go_upto_region 28 with fail
    rw [← hWP]
    clear hWP k0 k1 k2 k3 k4 k5 k6 d0 d1 d2 d3 d4 d5 d6 hfz
    have r0 := HBH.out.cell (j := 0) rfl
    have rf := HBH.out.frozen 0
    have p0 := HR.out.1
    go_wp2_with fail
    rw [← hWF]
    exact bodyPost_ret (by simp [results, Tryz.results70, go_sem, p0]) rfl HR.out.2
  by_cases x3 : x = 3
  · subst x3
    have z1 := H8.out.e.cell (j := 2) rfl
    have z2 := H8.out.e.frozen 2
    obtain ⟨WA, hWA⟩ : ∃ WA : World, WA = w8.setCell ⟨eb, 2, none⟩ (.bool (!f.hi)) := ⟨_, rfl⟩
    have HA : Hid (SpJ base cb bv n w eb g5 c5 xs (⟨f.kind, f.s, (!f.hi), f.t, f.lo, f.up, f.n⟩ : Nd) WA) := by rw [hWA]; exact H8.out.set 2 _ _ rfl ⟨H8.out.ok.s, H8.out.ok.t, H8.out.ok.kind, H8.out.ok.lo, H8.out.ok.up, H8.out.ok.n⟩
    go_upto_region 27 with fail
    rw [← hWA]
    clear hWA z1 z2
    obtain ⟨k0, k1, k2, k3, k4, k5, k6⟩ := And.intro (HA.out.e.cell (j := 0) rfl) (And.intro (HA.out.e.cell (j := 1) rfl) (And.intro (HA.out.e.cell (j := 2) rfl) (And.intro (HA.out.e.cell (j := 3) rfl) (And.intro (HA.out.e.cell (j := 4) rfl) (And.intro (HA.out.e.cell (j := 5) rfl) (HA.out.e.cell (j := 6) rfl))))))
    simp only at k0 k1 k2 k3 k4 k5 k6
    obtain ⟨d0, d1, d2, d3, d4, d5, d6⟩ := HA.out.row.at i _ HSm.out.2
    simp only [Nat.zero_add] at d0 d1 d2 d3 d4 d5 d6
    have hfz := fun j => World.ownsRow.frozenAt HA.out.row j
    obtain ⟨WP, hWP⟩ : ∃ WP : World, WP = (((((((WA.setCell ⟨g5, i * 7, none⟩ (.int .i64 f.kind)).setCell ⟨g5, i * 7 + 1, none⟩ (.string f.s)).setCell ⟨g5, i * 7 + 2, none⟩ (.bool (!f.hi))).setCell ⟨g5, i * 7 + 3, none⟩ (.string f.t)).setCell ⟨g5, i * 7 + 4, none⟩ (.int .u64 f.lo)).setCell ⟨g5, i * 7 + 5, none⟩ (.int .u64 f.up)).setCell ⟨g5, i * 7 + 6, none⟩ (.int .i64 f.n)) := ⟨_, rfl⟩
    have HB := HA.out.back (fun e he => (HX.out.2 e he).ok) (by rw [← HN.out]; exact hl) HSm.out.2 WP hWP
    have HBH : Hid (BoxAt WP w.heap.size 25 1 (w.heap.size + 1) [.slice none 0 0]) := HB.1
    obtain ⟨WF, hWF⟩ : ∃ WF : World, WF = WP.setCell ⟨w.heap.size + 1, 0, none⟩ (.slice (some ⟨g5, 0, none⟩) N c5) := ⟨_, rfl⟩
    have HR : Hid (WF.cell? ⟨w.heap.size + 1, 0, none⟩ = some (.slice (some ⟨g5, 0, none⟩) N c5) ∧ AnyP base cb bv n w (.returned (.agg #[.slice (some ⟨g5, 0, none⟩) N c5])) WF) := HB.2 N WF HN.out hWF
    clear HB
    go_upto_region 28 with fail
    rw [← hWP]
    clear hWP k0 k1 k2 k3 k4 k5 k6 d0 d1 d2 d3 d4 d5 d6 hfz
    have r0 := HBH.out.cell (j := 0) rfl
    have rf := HBH.out.frozen 0
    have p0 := HR.out.1
    go_wp2_with fail
    rw [← hWF]
    exact bodyPost_ret (by simp [results, Tryz.results70, go_sem, p0]) rfl HR.out.2
  by_cases x4 : x = 4
  · subst x4
    have z3 := H8.out.e.cell (j := 4) rfl
    have z1 := H8.out.e.cell (j := 5) rfl
    have z2 := H8.out.e.frozen 5
    obtain ⟨WA, hWA⟩ : ∃ WA : World, WA = w8.setCell ⟨eb, 5, none⟩ (.int .u64 f.lo) := ⟨_, rfl⟩
    have HA : Hid (SpJ base cb bv n w eb g5 c5 xs (⟨f.kind, f.s, f.hi, f.t, f.lo, f.lo, f.n⟩ : Nd) WA) := by rw [hWA]; exact H8.out.set 5 _ _ rfl ⟨H8.out.ok.s, H8.out.ok.t, H8.out.ok.kind, H8.out.ok.lo, H8.out.ok.lo, H8.out.ok.n⟩
    go_upto_region 27 with fail
    rw [← hWA]
    clear hWA z1 z2 z3
    obtain ⟨k0, k1, k2, k3, k4, k5, k6⟩ := And.intro (HA.out.e.cell (j := 0) rfl) (And.intro (HA.out.e.cell (j := 1) rfl) (And.intro (HA.out.e.cell (j := 2) rfl) (And.intro (HA.out.e.cell (j := 3) rfl) (And.intro (HA.out.e.cell (j := 4) rfl) (And.intro (HA.out.e.cell (j := 5) rfl) (HA.out.e.cell (j := 6) rfl))))))
    simp only at k0 k1 k2 k3 k4 k5 k6
    obtain ⟨d0, d1, d2, d3, d4, d5, d6⟩ := HA.out.row.at i _ HSm.out.2
    simp only [Nat.zero_add] at d0 d1 d2 d3 d4 d5 d6
    have hfz := fun j => World.ownsRow.frozenAt HA.out.row j
    obtain ⟨WP, hWP⟩ : ∃ WP : World, WP = (((((((WA.setCell ⟨g5, i * 7, none⟩ (.int .i64 f.kind)).setCell ⟨g5, i * 7 + 1, none⟩ (.string f.s)).setCell ⟨g5, i * 7 + 2, none⟩ (.bool f.hi)).setCell ⟨g5, i * 7 + 3, none⟩ (.string f.t)).setCell ⟨g5, i * 7 + 4, none⟩ (.int .u64 f.lo)).setCell ⟨g5, i * 7 + 5, none⟩ (.int .u64 f.lo)).setCell ⟨g5, i * 7 + 6, none⟩ (.int .i64 f.n)) := ⟨_, rfl⟩
    have HB := HA.out.back (fun e he => (HX.out.2 e he).ok) (by rw [← HN.out]; exact hl) HSm.out.2 WP hWP
    have HBH : Hid (BoxAt WP w.heap.size 25 1 (w.heap.size + 1) [.slice none 0 0]) := HB.1
    obtain ⟨WF, hWF⟩ : ∃ WF : World, WF = WP.setCell ⟨w.heap.size + 1, 0, none⟩ (.slice (some ⟨g5, 0, none⟩) N c5) := ⟨_, rfl⟩
    have HR : Hid (WF.cell? ⟨w.heap.size + 1, 0, none⟩ = some (.slice (some ⟨g5, 0, none⟩) N c5) ∧ AnyP base cb bv n w (.returned (.agg #[.slice (some ⟨g5, 0, none⟩) N c5])) WF) := HB.2 N WF HN.out hWF
    clear HB
    go_upto_region 28 with fail
    rw [← hWP]
    clear hWP k0 k1 k2 k3 k4 k5 k6 d0 d1 d2 d3 d4 d5 d6 hfz
    have r0 := HBH.out.cell (j := 0) rfl
    have rf := HBH.out.frozen 0
    have p0 := HR.out.1
    go_wp2_with fail
    rw [← hWF]
    exact bodyPost_ret (by simp [results, Tryz.results70, go_sem, p0]) rfl HR.out.2
  by_cases x5 : x = 5
  · subst x5
    have z3 := H8.out.e.cell (j := 1) rfl
    have z1 := H8.out.e.cell (j := 3) rfl
    have z2 := H8.out.e.frozen 3
    obtain ⟨WA, hWA⟩ : ∃ WA : World, WA = w8.setCell ⟨eb, 3, none⟩ (.string f.s) := ⟨_, rfl⟩
    have HA : Hid (SpJ base cb bv n w eb g5 c5 xs (⟨f.kind, f.s, f.hi, f.s, f.lo, f.up, f.n⟩ : Nd) WA) := by rw [hWA]; exact H8.out.set 3 _ _ rfl ⟨H8.out.ok.s, H8.out.ok.s, H8.out.ok.kind, H8.out.ok.lo, H8.out.ok.up, H8.out.ok.n⟩
    go_upto_region 27 with fail
    rw [← hWA]
    clear hWA z1 z2 z3
    obtain ⟨k0, k1, k2, k3, k4, k5, k6⟩ := And.intro (HA.out.e.cell (j := 0) rfl) (And.intro (HA.out.e.cell (j := 1) rfl) (And.intro (HA.out.e.cell (j := 2) rfl) (And.intro (HA.out.e.cell (j := 3) rfl) (And.intro (HA.out.e.cell (j := 4) rfl) (And.intro (HA.out.e.cell (j := 5) rfl) (HA.out.e.cell (j := 6) rfl))))))
    simp only at k0 k1 k2 k3 k4 k5 k6
    obtain ⟨d0, d1, d2, d3, d4, d5, d6⟩ := HA.out.row.at i _ HSm.out.2
    simp only [Nat.zero_add] at d0 d1 d2 d3 d4 d5 d6
    have hfz := fun j => World.ownsRow.frozenAt HA.out.row j
    obtain ⟨WP, hWP⟩ : ∃ WP : World, WP = (((((((WA.setCell ⟨g5, i * 7, none⟩ (.int .i64 f.kind)).setCell ⟨g5, i * 7 + 1, none⟩ (.string f.s)).setCell ⟨g5, i * 7 + 2, none⟩ (.bool f.hi)).setCell ⟨g5, i * 7 + 3, none⟩ (.string f.s)).setCell ⟨g5, i * 7 + 4, none⟩ (.int .u64 f.lo)).setCell ⟨g5, i * 7 + 5, none⟩ (.int .u64 f.up)).setCell ⟨g5, i * 7 + 6, none⟩ (.int .i64 f.n)) := ⟨_, rfl⟩
    have HB := HA.out.back (fun e he => (HX.out.2 e he).ok) (by rw [← HN.out]; exact hl) HSm.out.2 WP hWP
    have HBH : Hid (BoxAt WP w.heap.size 25 1 (w.heap.size + 1) [.slice none 0 0]) := HB.1
    obtain ⟨WF, hWF⟩ : ∃ WF : World, WF = WP.setCell ⟨w.heap.size + 1, 0, none⟩ (.slice (some ⟨g5, 0, none⟩) N c5) := ⟨_, rfl⟩
    have HR : Hid (WF.cell? ⟨w.heap.size + 1, 0, none⟩ = some (.slice (some ⟨g5, 0, none⟩) N c5) ∧ AnyP base cb bv n w (.returned (.agg #[.slice (some ⟨g5, 0, none⟩) N c5])) WF) := HB.2 N WF HN.out hWF
    clear HB
    go_upto_region 28 with fail
    rw [← hWP]
    clear hWP k0 k1 k2 k3 k4 k5 k6 d0 d1 d2 d3 d4 d5 d6 hfz
    have r0 := HBH.out.cell (j := 0) rfl
    have rf := HBH.out.frozen 0
    have p0 := HR.out.1
    go_wp2_with fail
    rw [← hWF]
    exact bodyPost_ret (by simp [results, Tryz.results70, go_sem, p0]) rfl HR.out.2
  by_cases x6 : x = 6
  · subst x6
    have r0 := H8.out.res.cell (j := 0) rfl
    have rf := H8.out.res.frozen 0
    go_upto_region 20 with fail
    by_cases hc1 : c5 = 1
    · obtain rfl : N = 1 := by omega
      subst hc1
      obtain ⟨WF, hWF⟩ : ∃ WF : World, WF = w8.setCell ⟨w.heap.size + 1, 0, none⟩ (.slice (some ⟨g5, 0, none⟩) 0 0) := ⟨_, rfl⟩
      have HR : Hid (WF.cell? ⟨w.heap.size + 1, 0, none⟩ = some (.slice (some ⟨g5, 0, none⟩) 0 0) ∧ AnyP base cb bv n w (.returned (.agg #[.slice (some ⟨g5, 0, none⟩) 0 0])) WF) := H8.out.cut [] 0 0 0 (fun i e he => by simp at he) (fun e he => by simp at he) rfl (by omega) (by omega) WF hWF
      have p0 := HR.out.1
      go_wp2_with fail
      rw [← hWF]
      exact bodyPost_ret (by simp [results, Tryz.results70, go_sem, p0]) rfl HR.out.2
    · have zc : ¬ ((c5 : Int) - 1 = 0) := by omega
      obtain ⟨WF, hWF⟩ : ∃ WF : World, WF = w8.setCell ⟨w.heap.size + 1, 0, none⟩ (.slice (some ⟨g5, 7, none⟩) (N - 1) (c5 - 1)) := ⟨_, rfl⟩
      have HR : Hid (WF.cell? ⟨w.heap.size + 1, 0, none⟩ = some (.slice (some ⟨g5, 7, none⟩) (N - 1) (c5 - 1)) ∧ AnyP base cb bv n w (.returned (.agg #[.slice (some ⟨g5, 7, none⟩) (N - 1) (c5 - 1)])) WF) := H8.out.cut (xs.drop 1) 7 (N - 1) (c5 - 1) (nds_drop H8.out.row.at) (fun e he => (HX.out.2 e (List.mem_of_mem_drop he)).ok) (by rw [List.length_drop, ← HN.out]) (by omega) (by unfold maxLen; omega) WF hWF
      have p0 := HR.out.1
      go_wp2_with fail
      rw [← hWF]
      exact bodyPost_ret (by simp [results, Tryz.results70, go_sem, p0]) rfl HR.out.2
  by_cases x7 : x = 7
  · subst x7
    obtain ⟨f0, hf0⟩ : ∃ f0, xs[0]? = some f0 := ⟨_, List.getElem?_eq_getElem (by have := HN.out; omega)⟩
    obtain ⟨d0, d1, d2, d3, d4, d5, d6⟩ := H8.out.row.at 0 f0 hf0
    simp only [Nat.zero_add, Nat.zero_mul] at d0 d1 d2 d3 d4 d5 d6
    have HF0 : Hid (f0.ok) := (HX.out.2 f0 (List.mem_of_getElem? hf0)).ok
    clear hf0
    obtain ⟨WX, hWX⟩ : ∃ WX : World, WX = w8.alloc (Obj.cells #[.int .i64 f0.kind, .string f0.s, .bool f0.hi, .string f0.t, .int .u64 f0.lo, .int .u64 f0.up, .int .i64 f0.n] 65) := ⟨_, rfl⟩
    have HWX : Hid (Below w8.heap.size w8 WX ∧ NdsAt WX w8.heap.size 0 [f0] ∧ WX = w8.alloc (Obj.cells #[.int .i64 f0.kind, .string f0.s, .bool f0.hi, .string f0.t, .int .u64 f0.lo, .int .u64 f0.up, .int .i64 f0.n] 65)) := ⟨by rw [hWX]; exact (Below.refl _ _).alloc (Nat.le_refl _) _, by rw [hWX]; exact (ownNd_one w8 w.heap.size f0 H8.out.d.c.size).at, hWX⟩
    clear hWX
    go_wp2_with (at_builtin; rw [← HWX.out.2.2]; refine wpList_append_nd _ rfl _ _ rfl w.heap.size g5 c5 N w8.heap.size 0 1 1 xs [f0] rfl rfl HN.out rfl (H8.out.row.below HWX.out.1 H8.out.row.lt.2) HWX.out.2.1 ?hl7 ?hb7 ?_)
    case hl7 => rw [← HN.out]; simp; omega
    case hb7 => have h1 := H8.out.d.c.size; have h2 := HWX.out.1.size; omega
    intro g9 c9 w9 hO9 hgr9 hat9
    have H9 : Hid (OwnNd w9 w.heap.size g9 c9 (xs ++ [f0]) ∧ DInv base cb bv n w w9 ∧ BoxAt w9 w.heap.size 25 1 (w.heap.size + 1) [.slice none 0 0] ∧ w.heap.size + 1 < g9) := by
      have hz := H8.out.d.c.size
      have hz2 := HWX.out.1.size
      have hne := H8.out.ne
      have hrl := H8.out.res.lt.2
      have hc9 : Chg (fun k => k = g5) WX w9 := Chg.of_grown hgr9 (fun k q => by cases q; rfl)
      refine ⟨hO9, (H8.out.d.below HWX.out.1).grow hgr9 (fun k q => by cases q; omega), (H8.out.res.below HWX.out.1).chg hc9 (by omega), ?_⟩
      rcases hat9 with q | q <;> omega
    clear hO9 hgr9 hat9 d0 d1 d2 d3 d4 d5 d6
    obtain ⟨WF, hWF⟩ : ∃ WF : World, WF = w9.setCell ⟨w.heap.size + 1, 0, none⟩ (.slice (some ⟨g9, 0, none⟩) (N + 1) c9) := ⟨_, rfl⟩
    have HR : Hid (WF.cell? ⟨w.heap.size + 1, 0, none⟩ = some (.slice (some ⟨g9, 0, none⟩) (N + 1) c9) ∧ AnyP base cb bv n w (.returned (.agg #[.slice (some ⟨g9, 0, none⟩) (N + 1) c9])) WF) := by
      have hl9 : (xs ++ [f0]).length = N + 1 := by rw [List.length_append, ← HN.out]; rfl
      have hcF : Chg (fun k => k = w.heap.size + 1) w9 WF := by rw [hWF]; exact Chg.of_set _ _ _ _ rfl
      have hgl := H9.out.2.2.2
      have hOF := H9.out.1.chg hcF (by omega)
      refine ⟨by rw [hWF]; exact (H9.out.2.2.1.set 0 (.slice (some ⟨g9, 0, none⟩) (N + 1) c9)).cell (j := 0) rfl, g9, 0, c9, xs ++ [f0], by rw [hl9], by rw [hl9]; omega, fun e he => ?_, hOF.at, hOF.lt, hOF.caps, by rw [hWF]; exact H9.out.2.1.grow (grown_set w9 (w.heap.size + 1) 0 _) (fun k q => by cases q; omega)⟩
      rcases List.mem_append.1 he with q | q
      · exact (HX.out.2 e q).ok
      · simp at q; subst q; exact HF0.out
    have r0 := H9.out.2.2.1.cell (j := 0) rfl
    have rf := H9.out.2.2.1.frozen 0
    have p0 := HR.out.1
    go_wp2_with fail
    rw [← hWF]
    exact bodyPost_ret (by simp [results, Tryz.results70, go_sem, p0]) rfl HR.out.2
  by_cases x8 : x = 8
  · subst x8
    go_wp2_with fail
    refine (many_core 97 201 w8 (by omega)).mono ?_
    rintro e w9 ⟨q, rfl, hq, hb9⟩
    have H9 : Hid (SpJ base cb bv n w eb g5 c5 xs f w9) := H8.out.below hb9
    clear hb9
    have z1 := H9.out.e.cell (j := 1) rfl
    have z2 := H9.out.e.frozen 1
    obtain ⟨WA, hWA⟩ : ∃ WA : World, WA = w9.setCell ⟨eb, 1, none⟩ (.string q) := ⟨_, rfl⟩
    have HA : Hid (SpJ base cb bv n w eb g5 c5 xs (⟨f.kind, q, f.hi, f.t, f.lo, f.up, f.n⟩ : Nd) WA) := by rw [hWA]; exact H9.out.set 1 _ _ rfl ⟨(Nat.le_trans hq (by decide)), H8.out.ok.t, H8.out.ok.kind, H8.out.ok.lo, H8.out.ok.up, H8.out.ok.n⟩
    go_upto_region 27 with fail
    rw [← hWA]
    clear hWA z1 z2
    obtain ⟨k0, k1, k2, k3, k4, k5, k6⟩ := And.intro (HA.out.e.cell (j := 0) rfl) (And.intro (HA.out.e.cell (j := 1) rfl) (And.intro (HA.out.e.cell (j := 2) rfl) (And.intro (HA.out.e.cell (j := 3) rfl) (And.intro (HA.out.e.cell (j := 4) rfl) (And.intro (HA.out.e.cell (j := 5) rfl) (HA.out.e.cell (j := 6) rfl))))))
    simp only at k0 k1 k2 k3 k4 k5 k6
    obtain ⟨d0, d1, d2, d3, d4, d5, d6⟩ := HA.out.row.at i _ HSm.out.2
    simp only [Nat.zero_add] at d0 d1 d2 d3 d4 d5 d6
    have hfz := fun j => World.ownsRow.frozenAt HA.out.row j
    obtain ⟨WP, hWP⟩ : ∃ WP : World, WP = (((((((WA.setCell ⟨g5, i * 7, none⟩ (.int .i64 f.kind)).setCell ⟨g5, i * 7 + 1, none⟩ (.string q)).setCell ⟨g5, i * 7 + 2, none⟩ (.bool f.hi)).setCell ⟨g5, i * 7 + 3, none⟩ (.string f.t)).setCell ⟨g5, i * 7 + 4, none⟩ (.int .u64 f.lo)).setCell ⟨g5, i * 7 + 5, none⟩ (.int .u64 f.up)).setCell ⟨g5, i * 7 + 6, none⟩ (.int .i64 f.n)) := ⟨_, rfl⟩
    have HB := HA.out.back (fun e he => (HX.out.2 e he).ok) (by rw [← HN.out]; exact hl) HSm.out.2 WP hWP
    have HBH : Hid (BoxAt WP w.heap.size 25 1 (w.heap.size + 1) [.slice none 0 0]) := HB.1
    obtain ⟨WF, hWF⟩ : ∃ WF : World, WF = WP.setCell ⟨w.heap.size + 1, 0, none⟩ (.slice (some ⟨g5, 0, none⟩) N c5) := ⟨_, rfl⟩
    have HR : Hid (WF.cell? ⟨w.heap.size + 1, 0, none⟩ = some (.slice (some ⟨g5, 0, none⟩) N c5) ∧ AnyP base cb bv n w (.returned (.agg #[.slice (some ⟨g5, 0, none⟩) N c5])) WF) := HB.2 N WF HN.out hWF
    clear HB
    go_upto_region 28 with fail
    rw [← hWP]
    clear hWP k0 k1 k2 k3 k4 k5 k6 d0 d1 d2 d3 d4 d5 d6 hfz
    have r0 := HBH.out.cell (j := 0) rfl
    have rf := HBH.out.frozen 0
    have p0 := HR.out.1
    go_wp2_with fail
    rw [← hWF]
    exact bodyPost_ret (by simp [results, Tryz.results70, go_sem, p0]) rfl HR.out.2
  · obtain rfl : x = 9 := by omega
    have z1 := H8.out.e.cell (j := 6) rfl
    have z2 := H8.out.e.frozen 6
    obtain ⟨WA, hWA⟩ : ∃ WA : World, WA = w8.setCell ⟨eb, 6, none⟩ (.int .i64 0) := ⟨_, rfl⟩
    have HA : Hid (SpJ base cb bv n w eb g5 c5 xs (⟨f.kind, f.s, f.hi, f.t, f.lo, f.up, 0⟩ : Nd) WA) := by rw [hWA]; exact H8.out.set 6 _ _ rfl ⟨H8.out.ok.s, H8.out.ok.t, H8.out.ok.kind, H8.out.ok.lo, H8.out.ok.up, (by show (Lit.int .i64 0).wf = true; decide)⟩
    go_upto_region 27 with fail
    rw [← hWA]
    clear hWA z1 z2
    obtain ⟨k0, k1, k2, k3, k4, k5, k6⟩ := And.intro (HA.out.e.cell (j := 0) rfl) (And.intro (HA.out.e.cell (j := 1) rfl) (And.intro (HA.out.e.cell (j := 2) rfl) (And.intro (HA.out.e.cell (j := 3) rfl) (And.intro (HA.out.e.cell (j := 4) rfl) (And.intro (HA.out.e.cell (j := 5) rfl) (HA.out.e.cell (j := 6) rfl))))))
    simp only at k0 k1 k2 k3 k4 k5 k6
    obtain ⟨d0, d1, d2, d3, d4, d5, d6⟩ := HA.out.row.at i _ HSm.out.2
    simp only [Nat.zero_add] at d0 d1 d2 d3 d4 d5 d6
    have hfz := fun j => World.ownsRow.frozenAt HA.out.row j
    obtain ⟨WP, hWP⟩ : ∃ WP : World, WP = (((((((WA.setCell ⟨g5, i * 7, none⟩ (.int .i64 f.kind)).setCell ⟨g5, i * 7 + 1, none⟩ (.string f.s)).setCell ⟨g5, i * 7 + 2, none⟩ (.bool f.hi)).setCell ⟨g5, i * 7 + 3, none⟩ (.string f.t)).setCell ⟨g5, i * 7 + 4, none⟩ (.int .u64 f.lo)).setCell ⟨g5, i * 7 + 5, none⟩ (.int .u64 f.up)).setCell ⟨g5, i * 7 + 6, none⟩ (.int .i64 0)) := ⟨_, rfl⟩
    have HB := HA.out.back (fun e he => (HX.out.2 e he).ok) (by rw [← HN.out]; exact hl) HSm.out.2 WP hWP
    have HBH : Hid (BoxAt WP w.heap.size 25 1 (w.heap.size + 1) [.slice none 0 0]) := HB.1
    obtain ⟨WF, hWF⟩ : ∃ WF : World, WF = WP.setCell ⟨w.heap.size + 1, 0, none⟩ (.slice (some ⟨g5, 0, none⟩) N c5) := ⟨_, rfl⟩
    have HR : Hid (WF.cell? ⟨w.heap.size + 1, 0, none⟩ = some (.slice (some ⟨g5, 0, none⟩) N c5) ∧ AnyP base cb bv n w (.returned (.agg #[.slice (some ⟨g5, 0, none⟩) N c5])) WF) := HB.2 N WF HN.out hWF
    clear HB
    go_upto_region 28 with fail
    rw [← hWP]
    clear hWP k0 k1 k2 k3 k4 k5 k6 d0 d1 d2 d3 d4 d5 d6 hfz
    have r0 := HBH.out.cell (j := 0) rfl
    have rf := HBH.out.frozen 0
    have p0 := HR.out.1
    go_wp2_with fail
    rw [← hWF]
    exact bodyPost_ret (by simp [results, Tryz.results70, go_sem, p0]) rfl HR.out.2
end Go.Proofs.YtgnpcenpcmdlfaaGreatDoor

/-
  spec.l5Norm.
-/
namespace Go.Proofs.YtgnpcenpcmdlfaaGreatDoor
open Go.ChangeShapes Go.WideShapes Go.ChangeAt Go.RowKit Go.Deep
set_option linter.unusedVariables false
set_option linter.unusedSimpArgs false
set_option maxRecDepth 100000

theorem NdsAt.chg {S : Nat → Prop} {w w' : World} {b off : Nat} {es : List Nd} (h : NdsAt w b off es) (hb : Chg S w w') (hlt : b < w.heap.size) (hn : ¬ S b) : NdsAt w' b off es := by
  intro i e he
  have := h i e he
  refine ⟨?_, ?_, ?_, ?_, ?_, ?_, ?_⟩
  all_goals rw [hb.cell (by exact hlt) (by exact hn)]
  · exact this.1
  · exact this.2.1
  · exact this.2.2.1
  · exact this.2.2.2.1
  · exact this.2.2.2.2.1
  · exact this.2.2.2.2.2.1
  · exact this.2.2.2.2.2.2
theorem InNds.chg {S : Nat → Prop} {w w' : World} {v : Value} {l : List Nd} (h : InNds w v l) (hc : Chg S w w') (hv : ∀ g n c, v = .slice (some g) n c → l ≠ [] → ¬ S g.block) : InNds w' v l := by
  rcases h with h | ⟨b, off, cap, hq, hE, hlt, h1, h2⟩
  · exact .inl h
  · by_cases hn : l = []
    · subst hn
      exact .inl ⟨_, _, hq, rfl⟩
    · exact .inr ⟨b, off, cap, hq, hE.chg hc hlt (hv ⟨b, off, none⟩ _ _ hq hn), by have := hc.size; omega, h1, h2⟩
/-- What l5Norm hands back. -/
def NormP (b : Nat) (y : List Nd) (w : World) (r : Ending) (w' : World) : Prop := ∃ v, r = .returned v ∧ InNds w' v y ∧ (∀ a n c, v = .slice (some a) n c → a.block = b ∨ w.heap.size ≤ a.block) ∧ Below w.heap.size w w'
/-- The operands so far. -/
structure NoJ (w : World) (b o cap : Nat) (ks os : List (List Nd)) (i g cp : Nat) (us : List Value) (wr : World) : Prop where
  own : OwnV wr w.heap.size g cp us
  len : us.length = ks.length
  done : ∀ (j : Nat) (u : Value) (x : List Nd), j < i → us[j]? = some u → os[j]? = some x → InNds wr u x ∧ ∀ a n c, u = .slice (some a) n c → (a.block = b ∨ w.heap.size ≤ a.block) ∧ a.block ≠ g
  rest : ∀ (j : Nat), i ≤ j → us[j]? = (kidVs b o cap ks)[j]?
  below : Below w.heap.size w wr
theorem NoJ.move {w : World} {b o cap : Nat} {ks os : List (List Nd)} {i g cp : Nat} {us : List Value} {wr w' : World} (h : NoJ w b o cap ks os i g cp us wr) (hb : Below wr.heap.size wr w') : NoJ w b o cap ks os i g cp us w' :=
  ⟨h.own.below hb, h.len, fun j u x hj hu hx => ⟨(h.done j u x hj hu hx).1.below hb (Nat.le_refl _), (h.done j u x hj hu hx).2⟩, h.rest, h.below.trans (hb.mono h.below.size)⟩
theorem NoJ.next {w : World} {b o cap : Nat} {ks os : List (List Nd)} {i g cp : Nat} {us : List Value} {wr w2 : World} {v : Value} {x : List Nd} (h : NoJ w b o cap ks os i g cp us wr) (hb : Below wr.heap.size wr w2) (hx : os[i]? = some x) (hv : InNds w2 v x) (hvb : ∀ a n c, v = .slice (some a) n c → a.block = b ∨ wr.heap.size ≤ a.block) (hbw : b < w.heap.size) (hi : i < ks.length) : NoJ w b o cap ks os (i + 1) g cp (us.set i v) (w2.setCell ⟨g, i, none⟩ v) := by
  have h2 := h.move hb
  have hg := h.own.lt
  have hs := h.below.size
  have hc : Chg (fun q => q = g) w2 (w2.setCell ⟨g, i, none⟩ v) := Chg.of_set w2 g i v (S := fun q => q = g) rfl
  refine ⟨?_, by rw [List.length_set]; exact h.len, fun j u y hj hu hy => ?_, fun j hj => ?_, h2.below.setCell hg.1 _⟩
  · have := (World.ownsRow.stored h2.own i v).1
    unfold OwnV
    rw [List.length_set]
    exact this
  · rw [List.getElem?_set] at hu
    by_cases e : i = j
    · subst e
      rw [if_pos rfl, if_pos (by have := h.len; omega)] at hu
      obtain rfl := Option.some.inj hu
      rw [hx] at hy
      obtain rfl := Option.some.inj hy
      have hne : ∀ a n c, v = .slice (some a) n c → a.block ≠ g := fun a n c hq => by
        rcases hvb a n c hq with q | q <;> omega
      exact ⟨hv.chg hc (fun a n c hq _ => hne a n c hq), fun a n c hq => ⟨by rcases hvb a n c hq with q | q; exact .inl q; exact .inr (by omega), hne a n c hq⟩⟩
    · rw [if_neg e] at hu
      obtain ⟨h3, h4⟩ := h2.done j u y (by omega) hu hy
      exact ⟨h3.chg hc (fun a n c hq _ => (h4 a n c hq).2), h4⟩
  · rw [List.getElem?_set, if_neg (by omega)]
    exact h.rest j (by omega)
theorem kidVs_take (b : Nat) : ∀ (ks : List (List Nd)) (o cap j : Nat), j < ks.length → ∃ v, (kidVs b o cap ks)[j]? = some v := fun ks o cap j hj => ⟨_, List.getElem?_eq_getElem (by rw [kidVs_len]; exact hj)⟩
theorem trv_ne {y xs : List Nd} (h : NormF xs y) : y ≠ [] := by
  have gen : ∀ (n : Nat) {y xs : List Nd}, xs.length ≤ n → NormF xs y → y ≠ [] := by
    intro n
    induction n with
    | zero =>
      intro y xs hn h
      obtain ⟨ys, e, os, rfl, _⟩ := TrV.inv _ h
      simp at hn
    | succ n ih =>
      intro y xs hn h
      obtain ⟨ys, e, os, rfl, _, h2, rfl⟩ := TrV.inv _ h
      obtain ⟨ks, rfl, hK⟩ := TrV.kids _ h2
      simp only [List.length_append, List.length_singleton] at hn
      have hne : ∀ x ∈ os, x ≠ [] := fun x hx => by
        obtain ⟨j, hj⟩ := List.getElem?_of_mem hx
        have hjl := (List.getElem?_eq_some_iff.1 hj).1
        obtain ⟨k, hk⟩ : ∃ k, ks[j]? = some k := ⟨_, List.getElem?_eq_getElem (by have := KidV.length _ hK; omega)⟩
        obtain ⟨x', hx', ht⟩ := KidV.nth _ hK hk
        rw [hj] at hx'
        cases hx'
        have := len_flat (List.mem_of_getElem? hk)
        exact ih (by omega) ht
      unfold normOf
      split
      · rename_i a b
        repeat' split
        all_goals first | (simp; done) | exact hne _ (by simp)
      · rename_i p a b
        repeat' split
        all_goals first | (simp; done) | exact hne _ (by simp)
      · simp
  exact gen _ (Nat.le_refl _) h
theorem NoJ.get {w : World} {b o cap : Nat} {ks os : List (List Nd)} {i g cp : Nat} {us : List Value} {wr : World} (h : NoJ w b o cap ks os i g cp us wr) {j : Nat} {x : List Nd} (hj : j < i) (hi : i ≤ ks.length) (hx : os[j]? = some x) (hne : x ≠ []) : ∃ b' o' c', us[j]? = some (.slice (some ⟨b', o', none⟩) x.length c') ∧ wr.cell? ⟨g, j, none⟩ = some (.slice (some ⟨b', o', none⟩) x.length c') ∧ InNds wr (.slice (some ⟨b', o', none⟩) x.length c') x ∧ (b' = b ∨ w.heap.size ≤ b') ∧ b' ≠ g := by
  obtain ⟨u, hu⟩ : ∃ u, us[j]? = some u := ⟨_, List.getElem?_eq_getElem (by have := h.len; omega)⟩
  obtain ⟨h1, h2⟩ := h.done j u x hj hu hx
  obtain ⟨a, c, rfl, hf⟩ := h1.form
  obtain ⟨b', o', rfl, _⟩ := hf hne
  obtain ⟨h3, h4⟩ := h2 _ _ _ rfl
  exact ⟨b', o', c, hu, h.own.cell hu, h1, h3, h4⟩
theorem norm_leaf {e : Nd} : normOf e [] = [e] := rfl
end Go.Proofs.YtgnpcenpcmdlfaaGreatDoor

/-
  The draws: any filter.
-/
namespace Go.Proofs.YtgnpcenpcmdlfaaGreatDoor
open Go.ChangeShapes Go.WideShapes Go.ChangeAt Go.RowKit Go.Deep
set_option linter.unusedVariables false
set_option linter.unusedSimpArgs false
set_option maxRecDepth 100000

theorem DInv.trans {base cb : Nat} {bv : Value} {n : Nat} {w w1 w2 : World} (h : DInv base cb bv n w w1) (k : DInv base cb bv n w1 w2) : DInv base cb bv n w w2 := ⟨k.d, h.c.trans k.c, h.lt, h.hb⟩
/-- A filter drawn in a later world is handed out by the result's variable. -/
theorem AnyP.out {base cb : Nat} {bv : Value} {n : Nat} {w w1 w2 : World} {rb b o c : Nat} {ys : List Nd} (hd : DInv base cb bv n w w2) (hr : BoxAt w2 w.heap.size 25 1 rb [.slice none 0 0]) (hb : b < w2.heap.size) (hw : w.heap.size ≤ b) (hne : ¬ b = rb) (hy : NdsAt w2 b o ys) (hok : ∀ e ∈ ys, e.ok) (hl : ys.length ≤ 1001) (hc : ys.length ≤ c ∧ c ≤ maxLen) (N : Nat) (hN : N = ys.length) (WF : World) (hWF : WF = w2.setCell ⟨rb, 0, none⟩ (.slice (some ⟨b, o, none⟩) N c)) :
    WF.cell? ⟨rb, 0, none⟩ = some (.slice (some ⟨b, o, none⟩) N c) ∧ AnyP base cb bv n w (.returned (.agg #[.slice (some ⟨b, o, none⟩) N c])) WF := by
  subst hN
  have hcF : Chg (fun k => k = rb) w2 WF := by rw [hWF]; exact Chg.of_set _ _ _ _ rfl
  refine ⟨by rw [hWF]; exact (hr.set 0 (.slice (some ⟨b, o, none⟩) ys.length c)).cell (j := 0) rfl, b, o, c, ys, rfl, hl, hok, hy.chg hcF hb hne, ⟨hw, Nat.lt_of_lt_of_le hb hcF.size⟩, hc, ?_⟩
  rw [hWF]
  exact hd.grow (grown_set w2 rb 0 _) (fun k q => by cases q; exact hr.lt.1)
set_option maxHeartbeats 4000000 in
theorem drawAny_core (base cb : Nat) (bv : Value) (n : Nat) (w : World) (h : DrawAt base cb bv n w) :
    Calls Tryz.prog 32 #[.pointer (some ⟨cb, 0, none⟩)] w (AnyP base cb bv n w) := by
  obtain ⟨Wa, hWa⟩ : ∃ Wa : World, Wa = w.alloc (Obj.cells #[.slice none 0 0] 25) := ⟨_, rfl⟩
  have hba : Below w.heap.size w Wa := by rw [hWa]; exact (Below.refl _ _).alloc (Nat.le_refl _) _
  have HA : Hid (DInv base cb bv n w Wa ∧ BoxAt Wa w.heap.size 25 1 w.heap.size [.slice none 0 0]) := ⟨(DInv.start h).below hba, by rw [hWa]; exact boxAt_new w #[.slice none 0 0] (Nat.le_refl _) rfl⟩
  clear h hba
  go_enter Tryz.func32, Tryz.ntmps32
  go_wp2_with fail
  rw [← hWa]
  clear hWa
  refine (once_core base cb bv n 20 _ HA.out.1.d (by omega) (by omega)).mono ?_
  rintro e w1 ⟨v, rfl, hv, hd1⟩
  have H1 : Hid (DInv base cb bv n w w1 ∧ BoxAt w1 w.heap.size 25 1 w.heap.size [.slice none 0 0]) := ⟨HA.out.1.call hd1, HA.out.2.chg hd1.2 (by have := HA.out.1.lt; omega)⟩
  clear hd1 HA
  rcases hv with rfl | rfl
  · go_wp2_with fail
    refine (drawLimit_core base cb bv n w1 H1.out.1.d).mono ?_
    rintro e w2 hP
    obtain ⟨b, o, c, ys, rfl, hl, K2⟩ := hP.any (by omega)
    have H2 : Hid (BoxAt w2 w.heap.size 25 1 w.heap.size [.slice none 0 0]) := H1.out.2.chg K2.out.2.2.2.2.c (by have := H1.out.1.lt; omega)
    obtain ⟨N, hN⟩ : ∃ N, N = ys.length := ⟨_, rfl⟩
    have HN : Hid (N = ys.length) := hN
    rw [← hN]
    obtain ⟨WF, hWF⟩ : ∃ WF : World, WF = w2.setCell ⟨w.heap.size, 0, none⟩ (.slice (some ⟨b, o, none⟩) N c) := ⟨_, rfl⟩
    have HR : Hid (WF.cell? ⟨w.heap.size, 0, none⟩ = some (.slice (some ⟨b, o, none⟩) N c) ∧ AnyP base cb bv n w (.returned (.agg #[.slice (some ⟨b, o, none⟩) N c])) WF) := by
      have hz := H1.out.2.lt.2
      have hb2 := K2.out.2.2.1
      exact AnyP.out (w1 := w1) (H1.out.1.trans K2.out.2.2.2.2) H2.out hb2.2 (by omega) (by omega) K2.out.2.1 K2.out.1 hl K2.out.2.2.2.1 N hN WF hWF
    have r0 := H2.out.cell (j := 0) rfl
    have rf := H2.out.frozen 0
    have p0 := HR.out.1
    clear hN K2 hP
    go_wp2_with fail
    rw [← hWF]
    exact bodyPost_ret (by simp [results, Tryz.results32, go_sem, p0]) rfl HR.out.2
  · go_wp2_with fail
    refine (drawFilter_core base cb bv n w1 H1.out.1.d).mono ?_
    rintro e w2 ⟨g, cp, xs, rfl, hl, h0, K2⟩
    obtain ⟨N, hN⟩ : ∃ N, N = xs.length := ⟨_, rfl⟩
    have HN : Hid (N = xs.length) := hN
    rw [← hN] at hl h0 ⊢
    obtain ⟨tb, htb⟩ : ∃ tb, tb = w2.heap.size := ⟨_, rfl⟩
    obtain ⟨W3, hW3⟩ : ∃ W3 : World, W3 = w2.alloc (Obj.cells #[.slice (some ⟨g, 0, none⟩) N cp] 25) := ⟨_, rfl⟩
    have H3 : Hid (DInv base cb bv n w W3 ∧ BoxAt W3 w.heap.size 25 1 w.heap.size [.slice none 0 0] ∧ BoxAt W3 w.heap.size 25 1 tb [.slice (some ⟨g, 0, none⟩) N cp] ∧ OwnNd W3 w1.heap.size g cp xs ∧ (w1.heap.size ≤ g ∧ g < tb ∧ w.heap.size < w1.heap.size)) := by
      have k3 : Below w2.heap.size w2 W3 := by rw [hW3]; exact (Below.refl _ _).alloc (Nat.le_refl _) _
      have hd2 := H1.out.1.trans K2.out.2.2
      have hz := H1.out.2.lt.2
      have hgl := K2.out.2.1.lt
      exact ⟨hd2.below k3, (H1.out.2.chg K2.out.2.2.c (by have := H1.out.1.lt; omega)).below k3, by rw [hW3, htb]; exact boxAt_new w2 #[.slice (some ⟨g, 0, none⟩) N cp] hd2.c.size rfl, K2.out.2.1.below k3 hgl.2, hgl.1, by omega, hz⟩
    have HS : Hid (∀ e ∈ xs, e.small) := K2.out.1
    clear K2 hN
    go_upto_region 4 with fail
    rw [← hW3, ← htb]
    clear hW3 htb
    go_wp2_with fail
    refine (once_core base cb bv n 8 _ H3.out.1.d (by omega) (by omega)).mono ?_
    rintro e w4 ⟨v, rfl, hv, hd4⟩
    have H4 : Hid (DInv base cb bv n w w4 ∧ BoxAt w4 w.heap.size 25 1 w.heap.size [.slice none 0 0] ∧ BoxAt w4 w.heap.size 25 1 tb [.slice (some ⟨g, 0, none⟩) N cp] ∧ OwnNd w4 w1.heap.size g cp xs ∧ (w1.heap.size ≤ g ∧ g < tb ∧ w.heap.size < w1.heap.size) ∧ tb < w4.heap.size) := by
      have hcl := H3.out.1.lt
      have hg := H3.out.2.2.2.2
      have htl := H3.out.2.2.1.lt.2
      have hz4 := hd4.2.size
      exact ⟨H3.out.1.call hd4, H3.out.2.1.chg hd4.2 (by omega), H3.out.2.2.1.chg hd4.2 (by omega), H3.out.2.2.2.1.chg hd4.2 (by omega), hg, by omega⟩
    clear hd4 H3
    rcases hv with rfl | rfl
    · have c4 := H4.out.2.2.1.cell (j := 0) rfl
      have HSp : Hid (Calls Tryz.prog 70 #[.pointer (some ⟨cb, 0, none⟩), .agg #[.slice (some ⟨g, 0, none⟩) N cp]] w4 (AnyP base cb bv n w4)) := by
        have h9 := drawSpoil_core base cb bv n w4 H4.out.1.d H4.out.2.2.2.1 HS.out (by rw [← HN.out]; omega) (by rw [← HN.out]; exact h0)
        rw [← HN.out] at h9
        exact h9
      go_wp2_with fail
      refine HSp.out.mono ?_
      rintro e w5 ⟨b, o, c, ys, rfl, hl5, K5⟩
      obtain ⟨M, hM⟩ : ∃ M, M = ys.length := ⟨_, rfl⟩
      have HM : Hid (M = ys.length) := hM
      rw [← hM]
      obtain ⟨W6, hW6⟩ : ∃ W6 : World, W6 = w5.setCell ⟨tb, 0, none⟩ (.slice (some ⟨b, o, none⟩) M c) := ⟨_, rfl⟩
      have H5 : Hid (BoxAt w5 w.heap.size 25 1 tb [.slice (some ⟨g, 0, none⟩) N cp]) := H4.out.2.2.1.chg K5.out.2.2.2.2.c (by have := H4.out.1.lt; have := H4.out.2.2.1.lt.1; omega)
      have H6 : Hid (DInv base cb bv n w W6 ∧ BoxAt W6 w.heap.size 25 1 w.heap.size [.slice none 0 0] ∧ BoxAt W6 w.heap.size 25 1 tb [.slice (some ⟨b, o, none⟩) M c] ∧ NdsAt W6 b o ys ∧ (w.heap.size < b ∧ b < W6.heap.size ∧ ¬ b = tb)) := by
        have hd5 := H4.out.1.trans K5.out.2.2.2.2
        have hb5 := K5.out.2.2.1
        have ht := H4.out.2.2.2.2.2
        have hg := H4.out.2.2.2.2.1
        have hcl := H4.out.1.lt
        have hc6 : Chg (fun k => k = tb) w5 W6 := by rw [hW6]; exact Chg.of_set _ _ _ _ rfl
        refine ⟨by rw [hW6]; exact hd5.grow (grown_set w5 tb 0 _) (fun k q => by cases q; omega), (H4.out.2.1.chg K5.out.2.2.2.2.c (by omega)).chg hc6 (by omega), by rw [hW6]; exact H5.out.set 0 _, K5.out.2.1.chg hc6 hb5.2 (by omega), by omega, Nat.lt_of_lt_of_le hb5.2 hc6.size, by omega⟩
      obtain ⟨WF, hWF⟩ : ∃ WF : World, WF = W6.setCell ⟨w.heap.size, 0, none⟩ (.slice (some ⟨b, o, none⟩) M c) := ⟨_, rfl⟩
      have HR : Hid (WF.cell? ⟨w.heap.size, 0, none⟩ = some (.slice (some ⟨b, o, none⟩) M c) ∧ AnyP base cb bv n w (.returned (.agg #[.slice (some ⟨b, o, none⟩) M c])) WF) := by
        have hb6 := H6.out.2.2.2.2
        exact AnyP.out (w1 := w1) H6.out.1 H6.out.2.1 hb6.2.1 (by omega) (by omega) H6.out.2.2.2.1 K5.out.1 hl5 K5.out.2.2.2.1 M hM WF hWF
      have t0 := H5.out.cell (j := 0) rfl
      have tf := H5.out.frozen 0
      clear hM K5 c4 HSp
      go_upto_region 6 with fail
      rw [← hW6]
      clear hW6 t0 tf
      have t6 := H6.out.2.2.1.cell (j := 0) rfl
      have r0 := H6.out.2.1.cell (j := 0) rfl
      have rf := H6.out.2.1.frozen 0
      have p0 := HR.out.1
      go_wp2_with fail
      rw [← hWF]
      exact bodyPost_ret (by simp [results, Tryz.results32, go_sem, p0]) rfl HR.out.2
    · obtain ⟨WF, hWF⟩ : ∃ WF : World, WF = w4.setCell ⟨w.heap.size, 0, none⟩ (.slice (some ⟨g, 0, none⟩) N cp) := ⟨_, rfl⟩
      have HR : Hid (WF.cell? ⟨w.heap.size, 0, none⟩ = some (.slice (some ⟨g, 0, none⟩) N cp) ∧ AnyP base cb bv n w (.returned (.agg #[.slice (some ⟨g, 0, none⟩) N cp])) WF) := by
        have hg := H4.out.2.2.2.2.1
        exact AnyP.out (w1 := w1) H4.out.1 H4.out.2.1 H4.out.2.2.2.1.lt.2 (by omega) (by omega) H4.out.2.2.2.1.at (fun e he => (HS.out e he).ok) (by rw [← HN.out]; omega) H4.out.2.2.2.1.caps N HN.out WF hWF
      have t6 := H4.out.2.2.1.cell (j := 0) rfl
      have r0 := H4.out.2.1.cell (j := 0) rfl
      have rf := H4.out.2.1.frozen 0
      have p0 := HR.out.1
      go_wp2_with fail
      rw [← hWF]
      exact bodyPost_ret (by simp [results, Tryz.results32, go_sem, p0]) rfl HR.out.2
end Go.Proofs.YtgnpcenpcmdlfaaGreatDoor

