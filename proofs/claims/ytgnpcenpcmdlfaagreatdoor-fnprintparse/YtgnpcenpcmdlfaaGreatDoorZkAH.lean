import Derived.Lib.Bytealg
import Derived.Lib.Slices
import Derived.Lib.Walk
import Derived.Deep.QuietTactic
import Derived.BigQuiet
import Derived.Deep.DeepCutAuto
import Derived.Deep.RegionWith
import Derived.Lib.ItoaNum
import Derived.Maps.AppendAt
import Derived.Lib.ConvBytes
import Derived.ArgAppend
import Derived.Lib.SlBytesConst
import Derived.Test.YtgnpcenpcmdlfaaGreatDoorZkAA
import Derived.Test.YtgnpcenpcmdlfaaGreatDoorZkAG
import Derived.Test.YtgnpcenpcmdlfaaGreatDoorZkAE
import Derived.Test.YtgnpcenpcmdlfaaGreatDoorZkAF
/-
  The drawing's bytes, as they came in.
-/
namespace Go.Proofs.YtgnpcenpcmdlfaaGreatDoor
open Go.ChangeShapes Go.WideShapes Go.ChangeAt Go.RowKit Go.Deep
set_option linter.unusedVariables false
set_option linter.unusedSimpArgs false
set_option maxRecDepth 100000

theorem CodeAt.slice {w : World} {base : Nat} {bv : Value} {n : Nat} (h : CodeAt w base bv n) : ∃ a cap, bv = .slice a n cap := by
  rcases h.2 with ⟨a, cap, rfl, rfl⟩ | ⟨b, off, cap, rfl, _⟩
  · exact ⟨_, _, rfl⟩
  · exact ⟨_, _, rfl⟩
theorem CodeAt.up {w w' : World} {bv : Value} {n : Nat} (h : CodeAt w w.heap.size bv n) (hb : Below w.heap.size w w') : CodeAt w' w'.heap.size bv n := by
  refine ⟨h.1, ?_⟩
  rcases h.2 with h | ⟨b, off, cap, rfl, hlt, hc⟩
  · exact .inl h
  · refine .inr ⟨b, off, cap, rfl, by have := hb.size; omega, fun k hk => ?_⟩
    obtain ⟨x, h1, h2⟩ := hc k hk
    exact ⟨x, by rw [hb.cell (p := ⟨b, off + k, none⟩) hlt]; exact h1, h2⟩
def BytesIn (w : World) (v : Value) (n : Nat) : Prop :=
  n ≤ maxLen ∧ ((∃ a cap, v = .slice a 0 cap ∧ n = 0) ∨ ∃ b off cap, v = .slice (some ⟨b, off, none⟩) n cap ∧ b < w.heap.size ∧ ∀ k, k < n → ∃ x : Int, w.cell? ⟨b, off + k, none⟩ = some (.int .u8 x) ∧ 0 ≤ x ∧ x < 256)
theorem BytesIn.slice {w : World} {v : Value} {n : Nat} (h : BytesIn w v n) : ∃ a cap, v = .slice a n cap := by
  rcases h.2 with ⟨a, cap, rfl, rfl⟩ | ⟨b, off, cap, rfl, _⟩
  · exact ⟨_, _, rfl⟩
  · exact ⟨_, _, rfl⟩
theorem BytesIn.code {w : World} {v : Value} {n : Nat} (h : BytesIn w v n) (hn : n ≤ 1048576) : CodeAt w w.heap.size v n := ⟨hn, h.2⟩
theorem bytes_of_trod {H : Type} {enc : TypeId × Value → H} {w : World} {fuel : Nat} {v : Value} {x : DataW H × List MemPlace}
    (h : DataW.trod enc Tryz.prog w 0 (fun _ => true) true fuel 22 [v] = some x) (hlt : ∀ p ∈ x.2, p.block < w.heap.size) : ∃ n, BytesIn w v n := by
  have hc : Tryz.prog.cellsOf 5 = 1 := by kernel_rfl
  rcases open_ints Tryz.underlying22 Tryz.underlying5 hc h with ⟨hcs, hx⟩ | ⟨a, len, cap, zs, hcs, _, hl, hm, hz, hx, hcell, hwz⟩
  · simp only [List.cons.injEq, and_true] at hcs
    exact ⟨0, Nat.zero_le _, .inl ⟨none, 0, hcs, rfl⟩⟩
  · simp only [List.cons.injEq, and_true] at hcs
    simp only [if_true] at hz
    refine ⟨len, Nat.le_trans hl hm, ?_⟩
    by_cases h0 : len = 0
    · subst h0; exact .inl ⟨some a, cap, hcs, rfl⟩
    · obtain ⟨ab, ao, spot⟩ := a
      have hspot : spot = none := by simpa [Addr.add] using World.cell?_spot (hcell 0 (by omega))
      subst hspot
      refine .inr ⟨ab, ao, cap, hcs, ?_, fun k hk => ?_⟩
      · rw [hx] at hlt
        exact hlt (.cell ab (ao + 0)) (by simp only [MemPlace.row, List.mem_map, List.mem_range]; exact ⟨0, by omega, rfl⟩)
      · have h1 := hcell k (by omega)
        rw [Addr.add_lit] at h1
        have hb := range_u8 hwz k
        rw [List.getD_eq_getElem?_getD] at h1
        exact ⟨_, h1, hb.1, by omega⟩
end Go.Proofs.YtgnpcenpcmdlfaaGreatDoor

/-
  DrawNormal.
-/
namespace Go.Proofs.YtgnpcenpcmdlfaaGreatDoor
open Go.ChangeShapes Go.WideShapes Go.ChangeAt Go.RowKit Go.Deep
set_option linter.unusedVariables false
set_option linter.unusedSimpArgs false
set_option maxRecDepth 100000

def DnoP (w : World) (e : Ending) (w' : World) : Prop := ∃ (b o c : Nat) (ys : List Nd), e = .returned (.agg #[.slice (some ⟨b, o, none⟩) ys.length c]) ∧ ys.length ≤ 1001 ∧ Hid (((∀ e ∈ ys, e.ok) ∧ NdsAt w' b o ys ∧ (w.heap.size ≤ b ∧ b < w'.heap.size) ∧ (ys.length ≤ c ∧ c ≤ maxLen)) ∧ Below w.heap.size w w')
structure DnI (cb : Nat) (bv : Value) (n : Nat) (w w1 : World) (tb g cp N : Nat) (wr : World) : Prop where
  row : ∃ xs : List Nd, N = xs.length ∧ (∀ e ∈ xs, e.small) ∧ OwnNd wr w1.heap.size g cp xs
  d : DInv cb cb bv n w1 wr
  res : BoxAt wr w.heap.size 25 1 w.heap.size [.slice none 0 0]
  var : BoxAt wr w.heap.size 25 1 tb [.slice (some ⟨g, 0, none⟩) N cp]
  ne : g < tb ∧ w1.heap.size ≤ g
theorem DnI.call {cb : Nat} {bv : Value} {n : Nat} {w w1 : World} {tb g cp N : Nat} {wr wx : World} (h : DnI cb bv n w w1 tb g cp N wr) (hc : w.heap.size < cb) (hd : DInv cb cb bv n wr wx) : DnI cb bv n w w1 tb g cp N wx := by
  obtain ⟨xs, h1, h2, h3⟩ := h.row
  have hl := h.d.lt
  have hn := h.ne
  exact ⟨⟨xs, h1, h2, h3.chg hd.c (by omega)⟩, h.d.trans hd, h.res.chg hd.c (by omega), h.var.chg hd.c (by omega), hn⟩
theorem DnI.put {cb : Nat} {bv : Value} {n : Nat} {w w1 : World} {tb g cp N : Nat} {wr : World} (h : DnI cb bv n w w1 tb g cp N wr) (hc : w.heap.size < cb) {i : Nat} (hi : i < N) (k : Int) (hk : 0 ≤ k ∧ k ≤ 100000) (W9 : World)
    (h9 : W9 = (((((((wr.setCell ⟨g, i * 7, none⟩ (.int .i64 k)).setCell ⟨g, i * 7 + 1, none⟩ (.string ⟨#[]⟩)).setCell ⟨g, i * 7 + 2, none⟩ (.bool false)).setCell ⟨g, i * 7 + 3, none⟩ (.string ⟨#[]⟩)).setCell ⟨g, i * 7 + 4, none⟩ (.int .u64 0)).setCell ⟨g, i * 7 + 5, none⟩ (.int .u64 0)).setCell ⟨g, i * 7 + 6, none⟩ (.int .i64 0))) : DnI cb bv n w w1 tb g cp N W9 := by
  obtain ⟨xs, h1, h2, h3⟩ := h.row
  obtain ⟨e0, he⟩ : ∃ e0, xs[i]? = some e0 := ⟨_, List.getElem?_eq_getElem (by omega)⟩
  have hO9 := h3.put i e0 ⟨k, ⟨#[]⟩, false, ⟨#[]⟩, 0, 0, 0⟩ he
  simp only at hO9
  rw [← h9] at hO9
  have hl := h.d.lt
  have hn := h.ne
  have hb := h.d.hb
  have hc9 : Chg (fun k => k = g) wr W9 := by
    rw [h9]
    exact ((((((Chg.of_set (S := fun k => k = g) _ _ _ _ rfl).trans (Chg.of_set (S := fun k => k = g) _ _ _ _ rfl)).trans (Chg.of_set (S := fun k => k = g) _ _ _ _ rfl)).trans (Chg.of_set (S := fun k => k = g) _ _ _ _ rfl)).trans (Chg.of_set (S := fun k => k = g) _ _ _ _ rfl)).trans (Chg.of_set (S := fun k => k = g) _ _ _ _ rfl)).trans (Chg.of_set (S := fun k => k = g) _ _ _ _ rfl)
  refine ⟨⟨xs.set i ⟨k, ⟨#[]⟩, false, ⟨#[]⟩, 0, 0, 0⟩, by rw [List.length_set]; exact h1, fun e he => (List.mem_or_eq_of_mem_set he).elim (fun q => h2 e q) (fun q => by rw [q]; exact small_kind k hk), hO9⟩, ⟨h.d.d.chg hc9 (by omega) (fun k q => by omega), ⟨hc9.os.trans h.d.c.os, hc9.tape.trans h.d.c.tape, hc9.output.trans h.d.c.output, Nat.le_trans h.d.c.size hc9.size, fun k hk hnk => (hc9.block k (Nat.lt_of_lt_of_le hk h.d.c.size) (by omega)).trans (h.d.c.block k hk hnk)⟩, hl, hb⟩, h.res.chg hc9 (by omega), h.var.chg hc9 (by omega), hn⟩
theorem DnI.cellAt {cb : Nat} {bv : Value} {n : Nat} {w w1 : World} {tb g cp N : Nat} {wr : World} (h : DnI cb bv n w w1 tb g cp N wr) {i : Nat} (hi : i < N) : ∃ f : Nd, wr.cell? ⟨g, i * 7, none⟩ = some (.int .i64 f.kind) ∧ wr.cell? ⟨g, i * 7 + 1, none⟩ = some (.string f.s) ∧ wr.cell? ⟨g, i * 7 + 2, none⟩ = some (.bool f.hi) ∧ wr.cell? ⟨g, i * 7 + 3, none⟩ = some (.string f.t) ∧ wr.cell? ⟨g, i * 7 + 4, none⟩ = some (.int .u64 f.lo) ∧ wr.cell? ⟨g, i * 7 + 5, none⟩ = some (.int .u64 f.up) ∧ wr.cell? ⟨g, i * 7 + 6, none⟩ = some (.int .i64 f.n) ∧ ∀ j, wr.frozen? ⟨g, j, none⟩ = false := by
  obtain ⟨xs, h1, h2, h3⟩ := h.row
  obtain ⟨f, hf⟩ : ∃ f, xs[i]? = some f := ⟨_, List.getElem?_eq_getElem (by omega)⟩
  obtain ⟨d0, d1, d2, d3, d4, d5, d6⟩ := h3.at i f hf
  simp only [Nat.zero_add] at d0 d1 d2 d3 d4 d5 d6
  exact ⟨f, d0, d1, d2, d3, d4, d5, d6, fun j => World.ownsRow.frozenAt h3 j⟩
end Go.Proofs.YtgnpcenpcmdlfaaGreatDoor

/-
  DrawPrintFilter.
-/
namespace Go.Proofs.YtgnpcenpcmdlfaaGreatDoor
open Go.ChangeShapes Go.WideShapes Go.ChangeAt Go.RowKit Go.Deep
set_option linter.unusedVariables false
set_option linter.unusedSimpArgs false
set_option maxRecDepth 100000

/-- A filter drawn, in a variable of the call's own, beside the result's. -/
structure DpI (cb : Nat) (bv : Value) (n : Nat) (w : World) (tb b o c N : Nat) (wr : World) : Prop where
  row : ∃ ys : List Nd, N = ys.length ∧ ys.length ≤ 1001 ∧ (∀ e ∈ ys, e.ok) ∧ NdsAt wr b o ys
  bl : w.heap.size + 1 < b ∧ b < wr.heap.size
  caps : N ≤ c ∧ c ≤ maxLen
  d : DrawAt cb cb bv n wr
  res : BoxAt wr w.heap.size 25 1 w.heap.size [.slice none 0 0]
  var : BoxAt wr w.heap.size 25 1 tb [.slice (some ⟨b, o, none⟩) N c]
  low : Below w.heap.size w wr
  ne : w.heap.size < tb ∧ cb < tb ∧ cb < b ∧ w.heap.size < cb ∧ ¬ tb = b
theorem DpI.call {cb : Nat} {bv : Value} {n : Nat} {w : World} {tb b o c N : Nat} {wr wx : World} (h : DpI cb bv n w tb b o c N wr) (hd : Drew cb cb bv n wr wx) : DpI cb bv n w tb b o c N wx := by
  obtain ⟨ys, h1, h2, h3, h4⟩ := h.row
  have hn := h.ne
  have hb := h.bl
  exact ⟨⟨ys, h1, h2, h3, h4.chg hd.2 hb.2 (by omega)⟩, ⟨hb.1, Nat.lt_of_lt_of_le hb.2 hd.2.size⟩, h.caps, hd.1, h.res.chg hd.2 (by omega), h.var.chg hd.2 (by omega), Chg.below h.low hd.2 h.low.size (fun k q => by omega), hn⟩
theorem DpI.fin {cb : Nat} {bv : Value} {n : Nat} {w : World} {tb b o c N : Nat} {wr : World} (h : DpI cb bv n w tb b o c N wr) {WF : World} (hWF : WF = wr.setCell ⟨w.heap.size, 0, none⟩ (.slice (some ⟨b, o, none⟩) N c)) : WF.cell? ⟨w.heap.size, 0, none⟩ = some (.slice (some ⟨b, o, none⟩) N c) ∧ DnoP w (.returned (.agg #[.slice (some ⟨b, o, none⟩) N c])) WF := by
  obtain ⟨ys, h1, h2, h3, h4⟩ := h.row
  have hn := h.ne
  have hb := h.bl
  have hcp := h.caps
  have hcF : Chg (fun k => k = w.heap.size) wr WF := by rw [hWF]; exact Chg.of_set _ _ _ _ rfl
  exact ⟨by rw [hWF]; exact (h.res.set 0 _).cell (j := 0) rfl, b, o, c, ys, by rw [h1], h2, ⟨h3, h4.chg hcF hb.2 (by omega), ⟨by omega, Nat.lt_of_lt_of_le hb.2 hcF.size⟩, by omega, hcp.2⟩, Chg.below h.low hcF h.low.size (fun k q => by omega)⟩
set_option maxHeartbeats 8000000 in
theorem drawPrint_core (bv : Value) (n : Nat) (w : World) (h : CodeAt w w.heap.size bv n) : Calls Tryz.prog 14 #[bv] w (DnoP w) := by
  obtain ⟨a, cap, rfl⟩ := h.slice
  have hn := h.1
  obtain ⟨W0, hW0⟩ : ∃ W0 : World, W0 = w.alloc (Obj.cells #[.slice none 0 0] 25) := ⟨_, rfl⟩
  have hb0 : Below w.heap.size w W0 := by rw [hW0]; exact (Below.refl _ _).alloc (Nat.le_refl _) _
  have hz0 : W0.heap.size = w.heap.size + 1 := by rw [hW0]; simp
  have H0 : Hid (CodeAt W0 W0.heap.size (.slice a n cap) n ∧ BoxAt W0 w.heap.size 25 1 w.heap.size [.slice none 0 0] ∧ Below w.heap.size w W0 ∧ W0.heap.size = w.heap.size + 1) := ⟨h.up hb0, by rw [hW0]; exact boxAt_new w #[.slice none 0 0] (Nat.le_refl _) rfl, hb0, hz0⟩
  clear h hb0 hz0
  go_enter Tryz.func14, Tryz.ntmps14
  go_wp2_with fail
  rw [← hW0]
  clear hW0
  refine (new_core _ n W0 H0.out.1).mono ?_
  rintro e wn ⟨rfl, hDn, hbn⟩
  obtain ⟨cb, hcb⟩ : ∃ cb, cb = W0.heap.size := ⟨_, rfl⟩
  rw [← hcb] at hDn ⊢
  have HN0 : Hid (DrawAt cb cb (.slice a n cap) n wn ∧ BoxAt wn w.heap.size 25 1 w.heap.size [.slice none 0 0] ∧ Below w.heap.size w wn ∧ cb = w.heap.size + 1 ∧ cb < wn.heap.size) := ⟨hDn, H0.out.2.1.below hbn, H0.out.2.2.1.trans (hbn.mono H0.out.2.2.1.size), by have := H0.out.2.2.2; omega, hDn.lt.2⟩
  clear hDn hbn hcb H0
  go_wp2_with fail
  refine (drawAny_core cb cb (.slice a n cap) n wn HN0.out.1).mono ?_
  rintro e w2 ⟨b, o, c, ys, rfl, hl, K2⟩
  obtain ⟨N, hN⟩ : ∃ N, N = ys.length := ⟨_, rfl⟩
  rw [← hN]
  obtain ⟨W3, hW3⟩ : ∃ W3 : World, W3 = w2.alloc (Obj.cells #[.slice (some ⟨b, o, none⟩) N c] 25) := ⟨_, rfl⟩
  obtain ⟨tb, htb⟩ : ∃ tb, tb = w2.heap.size := ⟨_, rfl⟩
  have H3 : Hid (DpI cb (.slice a n cap) n w tb b o c N W3) := by
    have hb3 : Below w2.heap.size w2 W3 := by rw [hW3]; exact (Below.refl _ _).alloc (Nat.le_refl _) _
    have hc2 := K2.out.2.2.2.2.c
    have hbl := K2.out.2.2.1
    have hcb := HN0.out.2.2.2
    have hlow := HN0.out.2.2.1
    have hs := hlow.size
    have hs2 := hc2.size
    have hs3 := hb3.size
    have hl2 : Below w.heap.size w w2 := Chg.below hlow hc2 hlow.size (fun k q => by omega)
    exact ⟨⟨ys, hN, hl, K2.out.1, K2.out.2.1.below hb3 hbl.2⟩, ⟨by omega, by omega⟩, by rw [hN]; exact K2.out.2.2.2.1, K2.out.2.2.2.2.d.below hb3, (HN0.out.2.1.chg hc2 (by omega)).below hb3, by rw [htb, hW3]; exact boxAt_new w2 _ (by omega) rfl, hl2.trans (hb3.mono (by omega)), by omega, by omega, by omega, by omega, by omega⟩
  clear hN hl K2 HN0
  go_upto_region 3 with fail
  rw [← hW3, ← htb]
  clear hW3 htb
  go_wp2_with fail
  refine (once_core cb cb (.slice a n cap) n 4 _ H3.out.d (by omega) (by omega)).mono ?_
  rintro e w4 ⟨v, rfl, hv, hd4⟩
  have H4 : Hid (DpI cb (.slice a n cap) n w tb b o c N w4) := H3.out.call hd4
  clear hd4 H3
  rcases hv with rfl | rfl
  case inr =>
    obtain ⟨WF, hWF⟩ : ∃ WF : World, WF = w4.setCell ⟨w.heap.size, 0, none⟩ (.slice (some ⟨b, o, none⟩) N c) := ⟨_, rfl⟩
    have HR : Hid (WF.cell? ⟨w.heap.size, 0, none⟩ = some (.slice (some ⟨b, o, none⟩) N c) ∧ DnoP w (.returned (.agg #[.slice (some ⟨b, o, none⟩) N c])) WF) := H4.out.fin hWF
    have r0 := H4.out.res.cell (j := 0) rfl
    have rf := H4.out.res.frozen 0
    have t0 := H4.out.var.cell (j := 0) rfl
    have p0 := HR.out.1
    go_wp2_with fail
    rw [← hWF]
    exact bodyPost_ret (by simp [results, Tryz.results14, go_sem, p0]) rfl HR.out.2
  case inl =>
    have hne := H4.out.ne
    have hcl : cb < w4.heap.size := H4.out.d.lt.2
    go_wp2_with fail
    refine (pick_core cb cb (.slice a n cap) n _ 6 _ (H4.out.d.below ((Below.refl _ _).alloc (Nat.le_refl _) _)) (by omega) (by omega) (by omega) (by simp) ?_).mono ?_
    · intro k hk
      match k, hk with
      | 0, _ => exact ⟨_, by simp; rfl, by decide⟩
      | 1, _ => exact ⟨_, by simp; rfl, by decide⟩
      | 2, _ => exact ⟨_, by simp; rfl, by decide⟩
      | 3, _ => exact ⟨_, by simp; rfl, by decide⟩
      | 4, _ => exact ⟨_, by simp; rfl, by decide⟩
      | 5, _ => exact ⟨_, by simp; rfl, by decide⟩
    rintro e w6 ⟨s, rfl, hs, hd⟩
    have hb5 := (Below.refl w4.heap.size w4).alloc (Nat.le_refl _) (Obj.cells #[.string ⟨#[34]⟩, .string ⟨#[92]⟩, .string ⟨#[0, 255]⟩, .string ⟨#[97, 32, 98]⟩, .string ⟨#[126]⟩, .string ⟨#[127]⟩] 9)
    have H6 : Hid (DrawAt cb cb (.slice a n cap) n w6 ∧ BoxAt w6 w.heap.size 25 1 w.heap.size [.slice none 0 0] ∧ BoxAt w6 w.heap.size 25 1 tb [.slice (some ⟨b, o, none⟩) N c] ∧ Below w.heap.size w w6 ∧ w.heap.size + 1 < w6.heap.size) := by
      have hl4 := H4.out.low.trans (hb5.mono H4.out.low.size)
      have hz := hd.2.size
      have hz5 := hb5.size
      have hb := H4.out.bl
      exact ⟨hd.1, (H4.out.res.below hb5).chg hd.2 (by omega), (H4.out.var.below hb5).chg hd.2 (by omega), Chg.below hl4 hd.2 hl4.size (fun k q => by omega), by omega⟩
    clear hd hb5
    obtain ⟨nb, hnb⟩ : ∃ nb, nb = w6.heap.size := ⟨_, rfl⟩
    obtain ⟨W7, hW7⟩ : ∃ V : World, V = w6.setCell ⟨tb, 0, none⟩ (.slice (some ⟨nb, 0, none⟩) 1 1) := ⟨_, rfl⟩
    obtain ⟨W8, hW8⟩ : ∃ V : World, V = W7.alloc (Obj.cells #[.int .i64 9, .string s, .bool false, .string ⟨#[]⟩, .int .u64 0, .int .u64 0, .int .i64 0] 65) := ⟨_, rfl⟩
    have H7 : Hid (DpI cb (.slice a n cap) n w tb nb 0 1 1 W8) := by
      have hc7 : Chg (fun k => k = tb) w6 W7 := by rw [hW7]; exact Chg.of_set _ _ _ _ rfl
      have hz7 : W7.heap.size = w6.heap.size := by rw [hW7]; simp
      have hb8 : Below W7.heap.size W7 W8 := by rw [hW8]; exact (Below.refl _ _).alloc (Nat.le_refl _) _
      have hz8 : W7.heap.size < W8.heap.size := by rw [hW8]; simp
      have htl := H6.out.2.2.1.lt.2
      have hv7 : BoxAt W7 w.heap.size 25 1 tb [.slice (some ⟨nb, 0, none⟩) 1 1] := by rw [hW7]; exact H6.out.2.2.1.set 0 _
      have hN8 : NdsAt W8 nb 0 [(⟨9, s, false, ⟨#[]⟩, 0, 0, 0⟩ : Nd)] := by
        rw [hnb, ← hz7, hW8]
        exact (ownNd_one W7 w.heap.size (⟨9, s, false, ⟨#[]⟩, 0, 0, 0⟩ : Nd) (by have := H6.out.2.2.2.2; omega)).at
      have hok : (⟨9, s, false, ⟨#[]⟩, 0, 0, 0⟩ : Nd).ok := Nd.small.ok ⟨by show s.size ≤ 200000; omega, Nat.zero_le _, by show (0:Int) ≤ 0 ∧ (0:Int) ≤ 100000; omega, by show (0:Int) ≤ 0 ∧ (0:Int) ≤ 100000; omega, by show (0:Int) ≤ 0 ∧ (0:Int) ≤ 100000; omega, by show (0:Int) ≤ 9 ∧ (9:Int) ≤ 100000; omega⟩
      have hl6 := H6.out.2.2.2.1
      have hl7 : Below w.heap.size w W7 := Chg.below hl6 hc7 hl6.size (fun k q => by omega)
      have hcb6 := H6.out.1.lt.2
      have h65 := H6.out.2.2.2.2
      exact ⟨⟨_, rfl, by simp, fun e he => by rw [List.mem_singleton] at he; rw [he]; exact hok, hN8⟩, ⟨by omega, by omega⟩, ⟨Nat.le_refl _, by unfold maxLen; omega⟩, (H6.out.1.chg hc7 (by omega) (fun k q => by omega)).below hb8, (H6.out.2.1.chg hc7 (by omega)).below hb8, hv7.below hb8, hl7.trans (hb8.mono (by omega)), by omega, by omega, by omega, by omega, by omega⟩
    obtain ⟨WF, hWF⟩ : ∃ WF : World, WF = W8.setCell ⟨w.heap.size, 0, none⟩ (.slice (some ⟨nb, 0, none⟩) 1 1) := ⟨_, rfl⟩
    have HR : Hid (WF.cell? ⟨w.heap.size, 0, none⟩ = some (.slice (some ⟨nb, 0, none⟩) 1 1) ∧ DnoP w (.returned (.agg #[.slice (some ⟨nb, 0, none⟩) 1 1])) WF) := H7.out.fin hWF
    have v0 := H6.out.2.2.1.cell (j := 0) rfl
    have vf := H6.out.2.2.1.frozen 0
    have vl := H6.out.2.2.1.lt.2
    have r0 := H7.out.res.cell (j := 0) rfl
    have rf := H7.out.res.frozen 0
    have t0 := H7.out.var.cell (j := 0) rfl
    have p0 := HR.out.1
    clear H4 H6 hs
    go_upto_region 5 with fail
    rw [← hnb, ← hW7, ← hW8]
    clear hnb hW7 hW8 v0 vf vl
    go_wp2_with fail
    rw [← hWF]
    exact bodyPost_ret (by simp [results, Tryz.results14, go_sem, p0]) rfl HR.out.2
end Go.Proofs.YtgnpcenpcmdlfaaGreatDoor

/-
  laws.lwFilter over the same nodes.
-/
namespace Go.Proofs.YtgnpcenpcmdlfaaGreatDoor
open Go.ChangeShapes Go.WideShapes Go.ChangeAt Go.RowKit Go.Deep
set_option linter.unusedVariables false
set_option linter.unusedSimpArgs false
set_option maxRecDepth 100000

set_option maxHeartbeats 4000000 in
theorem lwFilter_same {w : World} {b o c b' o' c' : Nat} {ys : List Nd} (h : NdsAt w b o ys) (hb : b < w.heap.size) (h' : NdsAt w b' o' ys) (hb' : b' < w.heap.size) (hl : ys.length ≤ 1000000) :
    Calls Tryz.prog 19 #[.agg #[.slice (some ⟨b, o, none⟩) ys.length c], .agg #[.slice (some ⟨b', o', none⟩) ys.length c']] w fun e w' => e = .returned (.bool true) ∧ Below w.heap.size w w' := by
  obtain ⟨N, hN⟩ : ∃ N, N = ys.length := ⟨_, rfl⟩
  have HN : Hid (N = ys.length) := hN
  rw [← hN] at hl ⊢
  obtain ⟨W0, hW0⟩ : ∃ W0 : World, W0 = (w.alloc (Obj.cells #[.slice (some ⟨b, o, none⟩) N c] 25)).alloc (Obj.cells #[.slice (some ⟨b', o', none⟩) N c'] 25) := ⟨_, rfl⟩
  have H0 : Hid (Below w.heap.size w W0 ∧ BoxAt W0 w.heap.size 25 1 w.heap.size [.slice (some ⟨b, o, none⟩) N c] ∧ BoxAt W0 w.heap.size 25 1 (w.heap.size + 1) [.slice (some ⟨b', o', none⟩) N c'] ∧ NdsAt W0 b o ys ∧ NdsAt W0 b' o' ys ∧ (b < W0.heap.size ∧ b' < W0.heap.size)) := by
    have b1 := boxAt_new w (base := w.heap.size) (t := 25) (sz := 1) #[.slice (some ⟨b, o, none⟩) N c] (Nat.le_refl _) rfl
    obtain ⟨X, hX⟩ : ∃ X, X = w.alloc (Obj.cells #[.slice (some ⟨b, o, none⟩) N c] 25) := ⟨_, rfl⟩
    rw [← hX] at b1 hW0
    have zx : X.heap.size = w.heap.size + 1 := by rw [hX]; simp
    have k1 : Below w.heap.size w X := by rw [hX]; exact (Below.refl _ _).alloc (Nat.le_refl _) _
    have k2 : Below X.heap.size X W0 := by rw [hW0]; exact (Below.refl _ _).alloc (Nat.le_refl _) _
    have b2 := boxAt_new X (base := w.heap.size) (t := 25) (sz := 1) #[.slice (some ⟨b', o', none⟩) N c'] (by omega) rfl
    rw [← hW0, zx] at b2
    have k := k1.trans (k2.mono (by omega))
    exact ⟨k, b1.below k2, b2, h.below k hb, h'.below k hb', by have := k.size; omega, by have := k.size; omega⟩
  clear h h' hN
  have hS : ∀ wx, Below W0.heap.size W0 wx → wx.cell? ⟨w.heap.size, 0, none⟩ = some (.slice (some ⟨b, o, none⟩) N c) ∧ wx.cell? ⟨w.heap.size + 1, 0, none⟩ = some (.slice (some ⟨b', o', none⟩) N c') ∧ NdsAt wx b o ys ∧ NdsAt wx b' o' ys := fun wx hx => ⟨(H0.out.2.1.below hx).cell (j := 0) rfl, (H0.out.2.2.1.below hx).cell (j := 0) rfl, H0.out.2.2.2.1.below hx H0.out.2.2.2.2.2.1, H0.out.2.2.2.2.1.below hx H0.out.2.2.2.2.2.2⟩
  have HS : Hid (∀ wx, Below W0.heap.size W0 wx → wx.cell? ⟨w.heap.size, 0, none⟩ = some (.slice (some ⟨b, o, none⟩) N c) ∧ wx.cell? ⟨w.heap.size + 1, 0, none⟩ = some (.slice (some ⟨b', o', none⟩) N c') ∧ NdsAt wx b o ys ∧ NdsAt wx b' o' ys) := hS
  clear hS
  obtain ⟨q0, q1, _⟩ := HS.out W0 (Below.refl _ _)
  go_enter Tryz.func19, Tryz.ntmps19
  go_upto_region 1 with fail
  rw [← hW0]
  clear hW0
  go_wp2_with fail
  clear q0 q1
  go_loopw [5] (fun iv wr => ∃ i : Nat, i ≤ N ∧ iv = .int .i64 (i : Int) ∧ Below W0.heap.size W0 wr) (fun iv _ => N - (intOf iv).toNat)
  case atStart => exact ⟨0, Nat.zero_le _, rfl, Below.refl _ _⟩
  case round =>
    obtain ⟨i, hi, rfl, hbr⟩ := hrel
    have q0 := (HS.out wr hbr).1
    by_cases hlt : i < N
    · have zi : (i : Int) < (N : Int) := by omega
      obtain ⟨x, hx⟩ : ∃ x, ys[i]? = some x := ⟨_, List.getElem?_eq_getElem (by have := HN.out; omega)⟩
      obtain ⟨Q, hQ, hq⟩ := ndNe_any x x
      obtain rfl : Q = false := hQ.2 rfl
      have hbd : Below W0.heap.size W0 wr.drew := hbr.drew
      have hS0 : (fun wz : World => wz.cell? ⟨w.heap.size, 0, none⟩ = some (.slice (some ⟨b, o, none⟩) N c) ∧ wz.cell? ⟨w.heap.size + 1, 0, none⟩ = some (.slice (some ⟨b', o', none⟩) N c') ∧ NdsAt wz b o ys ∧ NdsAt wz b' o' ys) wr.drew := HS.out _ hbd
      have HXx : Hid (ys[i]? = some x) := hx
      clear hx hQ
      go_upto_region 6 with fail
      refine wp_region_T 99 (fun wz : World => wz.cell? ⟨w.heap.size, 0, none⟩ = some (.slice (some ⟨b, o, none⟩) N c) ∧ wz.cell? ⟨w.heap.size + 1, 0, none⟩ = some (.slice (some ⟨b', o', none⟩) N c') ∧ NdsAt wz b o ys ∧ NdsAt wz b' o' ys) (by kernel_rfl) ?_
      refine anyT_takeN (i := 0) (v := ?vlw0) rfl (by kernel_rfl) (by kernel_rfl) (by kernel_rfl) (by rfl) (fun _ _ _ h => h) (Or.inl ⟨by rfl, ?ylw0⟩) hS0 ?_
      case ylw0 => (intro wz hSw; obtain ⟨z0, z1, z2, z3⟩ := hSw; obtain ⟨c0, c1, c2, c3, c4, c5, c6⟩ := z2 i x HXx.out; obtain ⟨d0, d1, d2, d3, d4, d5, d6⟩ := z3 i x HXx.out; go_simp; (try with_reducible rfl))
      try simp only [Act.put, List.getElem_toArray, List.getElem_cons_zero, List.getElem_cons_succ, List.setIfInBounds_toArray, List.set_cons_zero, List.set_cons_succ]
      refine anyT_takeN (i := 1) (v := ?vlw1) rfl (by kernel_rfl) (by kernel_rfl) (by kernel_rfl) (by rfl) (fun _ _ _ h => h) (Or.inl ⟨by rfl, ?ylw1⟩) hS0 ?_
      case ylw1 => (intro wz hSw; obtain ⟨z0, z1, z2, z3⟩ := hSw; obtain ⟨c0, c1, c2, c3, c4, c5, c6⟩ := z2 i x HXx.out; obtain ⟨d0, d1, d2, d3, d4, d5, d6⟩ := z3 i x HXx.out; go_simp; (try with_reducible rfl))
      try simp only [Act.put, List.getElem_toArray, List.getElem_cons_zero, List.getElem_cons_succ, List.setIfInBounds_toArray, List.set_cons_zero, List.set_cons_succ]
      refine anyT_takeN (i := 2) (v := ?vlw2) rfl (by kernel_rfl) (by kernel_rfl) (by kernel_rfl) (by rfl) (fun _ _ _ h => h) (Or.inl ⟨by rfl, ?ylw2⟩) hS0 ?_
      case ylw2 => (intro wz hSw; obtain ⟨z0, z1, z2, z3⟩ := hSw; obtain ⟨c0, c1, c2, c3, c4, c5, c6⟩ := z2 i x HXx.out; obtain ⟨d0, d1, d2, d3, d4, d5, d6⟩ := z3 i x HXx.out; go_simp; (try with_reducible rfl))
      try simp only [Act.put, List.getElem_toArray, List.getElem_cons_zero, List.getElem_cons_succ, List.setIfInBounds_toArray, List.set_cons_zero, List.set_cons_succ]
      refine anyT_takeN (i := 3) (v := ?vlw3) rfl (by kernel_rfl) (by kernel_rfl) (by kernel_rfl) (by rfl) (fun _ _ _ h => h) (Or.inl ⟨by rfl, ?ylw3⟩) hS0 ?_
      case ylw3 => (intro wz hSw; obtain ⟨z0, z1, z2, z3⟩ := hSw; obtain ⟨c0, c1, c2, c3, c4, c5, c6⟩ := z2 i x HXx.out; obtain ⟨d0, d1, d2, d3, d4, d5, d6⟩ := z3 i x HXx.out; go_simp; (try with_reducible rfl))
      try simp only [Act.put, List.getElem_toArray, List.getElem_cons_zero, List.getElem_cons_succ, List.setIfInBounds_toArray, List.set_cons_zero, List.set_cons_succ]
      refine anyT_takeN (i := 4) (v := ?vlw4) rfl (by kernel_rfl) (by kernel_rfl) (by kernel_rfl) (by rfl) (fun _ _ _ h => h) (Or.inl ⟨by rfl, ?ylw4⟩) hS0 ?_
      case ylw4 => (intro wz hSw; obtain ⟨z0, z1, z2, z3⟩ := hSw; obtain ⟨c0, c1, c2, c3, c4, c5, c6⟩ := z2 i x HXx.out; obtain ⟨d0, d1, d2, d3, d4, d5, d6⟩ := z3 i x HXx.out; go_simp; (try with_reducible rfl))
      try simp only [Act.put, List.getElem_toArray, List.getElem_cons_zero, List.getElem_cons_succ, List.setIfInBounds_toArray, List.set_cons_zero, List.set_cons_succ]
      refine anyT_takeN (i := 5) (v := ?vlw5) rfl (by kernel_rfl) (by kernel_rfl) (by kernel_rfl) (by rfl) (fun _ _ _ h => h) (Or.inl ⟨by rfl, ?ylw5⟩) hS0 ?_
      case ylw5 => (intro wz hSw; obtain ⟨z0, z1, z2, z3⟩ := hSw; obtain ⟨c0, c1, c2, c3, c4, c5, c6⟩ := z2 i x HXx.out; obtain ⟨d0, d1, d2, d3, d4, d5, d6⟩ := z3 i x HXx.out; go_simp; (try with_reducible rfl))
      try simp only [Act.put, List.getElem_toArray, List.getElem_cons_zero, List.getElem_cons_succ, List.setIfInBounds_toArray, List.set_cons_zero, List.set_cons_succ]
      refine anyT_takeN (i := 6) (v := ?vlw6) rfl (by kernel_rfl) (by kernel_rfl) (by kernel_rfl) (by rfl) (fun _ _ _ h => h) (Or.inl ⟨by rfl, ?ylw6⟩) hS0 ?_
      case ylw6 => (intro wz hSw; obtain ⟨z0, z1, z2, z3⟩ := hSw; obtain ⟨c0, c1, c2, c3, c4, c5, c6⟩ := z2 i x HXx.out; obtain ⟨d0, d1, d2, d3, d4, d5, d6⟩ := z3 i x HXx.out; go_simp; (try with_reducible rfl))
      try simp only [Act.put, List.getElem_toArray, List.getElem_cons_zero, List.getElem_cons_succ, List.setIfInBounds_toArray, List.set_cons_zero, List.set_cons_succ]
      refine anyT_takeN (i := 7) (v := ?vlw7) rfl (by kernel_rfl) (by kernel_rfl) (by kernel_rfl) (by rfl) (fun _ _ _ h => h) (Or.inl ⟨by rfl, ?ylw7⟩) hS0 ?_
      case ylw7 => (intro wz hSw; obtain ⟨z0, z1, z2, z3⟩ := hSw; obtain ⟨c0, c1, c2, c3, c4, c5, c6⟩ := z2 i x HXx.out; obtain ⟨d0, d1, d2, d3, d4, d5, d6⟩ := z3 i x HXx.out; go_simp; (try with_reducible rfl))
      try simp only [Act.put, List.getElem_toArray, List.getElem_cons_zero, List.getElem_cons_succ, List.setIfInBounds_toArray, List.set_cons_zero, List.set_cons_succ]
      refine anyT_takeN (i := 8) (v := ?vlw8) rfl (by kernel_rfl) (by kernel_rfl) (by kernel_rfl) (by rfl) (fun _ _ _ h => h) (Or.inl ⟨by rfl, ?ylw8⟩) hS0 ?_
      case ylw8 => (intro wz hSw; obtain ⟨z0, z1, z2, z3⟩ := hSw; obtain ⟨c0, c1, c2, c3, c4, c5, c6⟩ := z2 i x HXx.out; obtain ⟨d0, d1, d2, d3, d4, d5, d6⟩ := z3 i x HXx.out; go_simp; (try with_reducible rfl))
      try simp only [Act.put, List.getElem_toArray, List.getElem_cons_zero, List.getElem_cons_succ, List.setIfInBounds_toArray, List.set_cons_zero, List.set_cons_succ]
      refine anyT_takeN (i := 9) (v := ?vlw9) rfl (by kernel_rfl) (by kernel_rfl) (by kernel_rfl) (by rfl) (fun _ _ _ h => h) (Or.inl ⟨by rfl, ?ylw9⟩) hS0 ?_
      case ylw9 => (intro wz hSw; obtain ⟨z0, z1, z2, z3⟩ := hSw; obtain ⟨c0, c1, c2, c3, c4, c5, c6⟩ := z2 i x HXx.out; obtain ⟨d0, d1, d2, d3, d4, d5, d6⟩ := z3 i x HXx.out; go_simp; (try with_reducible rfl))
      try simp only [Act.put, List.getElem_toArray, List.getElem_cons_zero, List.getElem_cons_succ, List.setIfInBounds_toArray, List.set_cons_zero, List.set_cons_succ]
      refine anyT_takeN (i := 10) (v := .bool false) rfl (by kernel_rfl) (by kernel_rfl) (by kernel_rfl) (by rfl) (fun _ _ _ h => h) (Or.inl ⟨by rfl, ?ylw10⟩) hS0 ?_
      case ylw10 => (intro wz hSw; obtain ⟨z0, z1, z2, z3⟩ := hSw; obtain ⟨c0, c1, c2, c3, c4, c5, c6⟩ := z2 i x HXx.out; obtain ⟨d0, d1, d2, d3, d4, d5, d6⟩ := z3 i x HXx.out; go_simp; (try with_reducible rfl))
      try simp only [Act.put, List.getElem_toArray, List.getElem_cons_zero, List.getElem_cons_succ, List.setIfInBounds_toArray, List.set_cons_zero, List.set_cons_succ]
      refine anyT_done (by kernel_rfl) ?_
      clear hS0 hq
      go_wp2_with fail
      go_roundw
      case rel => exact ⟨i + 1, by omega, by go_num, hbd⟩
      case measure => simp [intOf]; omega
    · go_wp2_with fail
      go_ret
      exact ⟨rfl, H0.out.1.trans (hbr.mono H0.out.1.size)⟩
end Go.Proofs.YtgnpcenpcmdlfaaGreatDoor

/-
  Bytes of a run's file: numbers, strings, fixed numbers, as lists (mathematics).
-/
namespace Go.Proofs.YtgnpcenpcmdlfaaGreatDoor
set_option linter.unusedVariables false
set_option linter.unusedSimpArgs false

/-- The byte of a number. -/
def byt (n : Nat) : UInt8 := UInt8.ofNat n
theorem byt_nat {n : Nat} (h : n < 256) : (byt n).toNat = n := by
  unfold byt
  rw [UInt8.toNat_ofNat']
  exact Nat.mod_eq_of_lt h
theorem byt_self (x : UInt8) : byt x.toNat = x := by
  apply UInt8.toNat_inj.1
  rw [byt_nat (UInt8.toNat_lt x)]
theorem u8lt (x : UInt8) : x.toNat < 256 := UInt8.toNat_lt x

/-- A number, seven bits a byte, the last byte below 128. -/
def num (n : Nat) : List UInt8 := if n < 128 then [byt n] else byt (128 + n % 128) :: num (n / 128)
termination_by n
decreasing_by omega
theorem num_small {n : Nat} (h : n < 128) : num n = [byt n] := by rw [num, if_pos h]
theorem num_large {n : Nat} (h : ¬ n < 128) : num n = byt (128 + n % 128) :: num (n / 128) := by rw [num, if_neg h]
theorem num_ne (n : Nat) : num n ≠ [] := by
  by_cases h : n < 128
  · rw [num_small h]; simp
  · rw [num_large h]; simp
theorem num_pos (n : Nat) : 0 < (num n).length := List.length_pos_iff.2 (num_ne n)
theorem num_len : ∀ (k n : Nat), n < 128 ^ (k + 1) → (num n).length ≤ k + 1
  | 0, n, h => by rw [num_small (by simpa using h)]; simp
  | k + 1, n, h => by
    by_cases hs : n < 128
    · rw [num_small hs]; simp
    · rw [num_large hs]
      have := num_len k (n / 128) (by rw [Nat.div_lt_iff_lt_mul (by omega), ← Nat.pow_succ]; exact h)
      simp; omega
theorem num_len64 {n : Nat} (h : n < 2 ^ 64) : (num n).length ≤ 10 := num_len 9 n (Nat.lt_trans h (by decide))

/-- A number read off, of whatever size; none where the bytes end or the form is not the shortest. -/
def getAny : List UInt8 → Option (Nat × List UInt8)
  | [] => none
  | x :: t => if x.toNat < 128 then some (x.toNat, t) else
    match getAny t with
    | none => none
    | some (n, u) => if n = 0 then none else some (x.toNat - 128 + 128 * n, u)
theorem getAny_num : ∀ (n : Nat) (t : List UInt8), getAny (num n ++ t) = some (n, t) := by
  intro n
  induction n using Nat.strongRecOn with
  | ind n ih =>
    intro t
    by_cases h : n < 128
    · rw [num_small h, List.singleton_append, getAny, if_pos (by rw [byt_nat (by omega)]; exact h), byt_nat (by omega)]
    · rw [num_large h, List.cons_append, getAny, if_neg (by rw [byt_nat (by omega)]; omega), ih (n / 128) (by omega) t]
      simp only []
      rw [if_neg (by omega), byt_nat (by omega)]
      congr 2
      omega
theorem getAny_iff {xs t : List UInt8} {n : Nat} : getAny xs = some (n, t) ↔ xs = num n ++ t := by
  constructor
  · induction xs generalizing n t with
    | nil => intro h; cases h
    | cons x l ih =>
      intro h
      rw [getAny] at h
      by_cases hx : x.toNat < 128
      · rw [if_pos hx] at h
        simp only [Option.some.injEq, Prod.mk.injEq] at h
        obtain ⟨rfl, rfl⟩ := h
        rw [num_small hx, byt_self]; rfl
      · rw [if_neg hx] at h
        cases hg : getAny l with
        | none => rw [hg] at h; cases h
        | some p =>
          obtain ⟨m, u⟩ := p
          rw [hg] at h
          simp only [] at h
          by_cases hm : m = 0
          · rw [if_pos hm] at h; cases h
          · rw [if_neg hm] at h
            simp only [Option.some.injEq, Prod.mk.injEq] at h
            obtain ⟨rfl, rfl⟩ := h
            have hx2 := u8lt x
            rw [num_large (by omega), show (x.toNat - 128 + 128 * m) / 128 = m by omega, show 128 + (x.toNat - 128 + 128 * m) % 128 = x.toNat by omega, byt_self, ih hg]
            rfl
  · rintro rfl
    exact getAny_num n t
/-- A number below 2^64 read off. -/
def getNum (xs : List UInt8) : Option (Nat × List UInt8) :=
  match getAny xs with
  | none => none
  | some (n, t) => if n < 2 ^ 64 then some (n, t) else none
theorem getNum_iff {xs t : List UInt8} {n : Nat} : getNum xs = some (n, t) ↔ n < 2 ^ 64 ∧ xs = num n ++ t := by
  unfold getNum
  cases hg : getAny xs with
  | none =>
    simp only []
    constructor
    · intro h; cases h
    · rintro ⟨_, h⟩
      rw [getAny_iff.2 h] at hg; cases hg
  | some p =>
    obtain ⟨m, u⟩ := p
    have h1 := getAny_iff.1 hg
    simp only []
    constructor
    · intro h
      split at h
      · simp only [Option.some.injEq, Prod.mk.injEq] at h
        obtain ⟨rfl, rfl⟩ := h
        exact ⟨by assumption, h1⟩
      · cases h
    · rintro ⟨h2, h3⟩
      rw [getAny_iff.2 h3] at hg
      simp only [Option.some.injEq, Prod.mk.injEq] at hg
      obtain ⟨rfl, rfl⟩ := hg
      rw [if_pos h2]
theorem getNum_num {n : Nat} (h : n < 2 ^ 64) (t : List UInt8) : getNum (num n ++ t) = some (n, t) := getNum_iff.2 ⟨h, rfl⟩
theorem num_split {n m : Nat} {s t : List UInt8} (h : num n ++ s = num m ++ t) : n = m ∧ s = t := by
  have h1 := getAny_num n s
  rw [h, getAny_num m t] at h1
  simp only [Option.some.injEq, Prod.mk.injEq] at h1
  exact ⟨h1.1.symm, h1.2.symm⟩

/-- A string with its length ahead. -/
def strB (s : List UInt8) : List UInt8 := num s.length ++ s
def getStr (xs : List UInt8) : Option (List UInt8 × List UInt8) :=
  match getNum xs with
  | none => none
  | some (n, t) => if n ≤ t.length then some (t.take n, t.drop n) else none
theorem getStr_iff {xs s t : List UInt8} : getStr xs = some (s, t) ↔ s.length < 2 ^ 64 ∧ xs = strB s ++ t := by
  unfold getStr strB
  cases hg : getNum xs with
  | none =>
    simp only []
    constructor
    · intro h; cases h
    · rintro ⟨h1, h⟩
      rw [List.append_assoc] at h
      rw [getNum_iff.2 ⟨h1, h⟩] at hg; cases hg
  | some p =>
    obtain ⟨m, u⟩ := p
    obtain ⟨h1, h2⟩ := getNum_iff.1 hg
    simp only []
    constructor
    · intro h
      split at h
      · next hm =>
        simp only [Option.some.injEq, Prod.mk.injEq] at h
        obtain ⟨rfl, rfl⟩ := h
        rw [List.length_take, Nat.min_eq_left hm]
        exact ⟨h1, by rw [List.append_assoc, List.take_append_drop]; exact h2⟩
      · cases h
    · rintro ⟨h3, h4⟩
      rw [List.append_assoc] at h4
      rw [getNum_iff.2 ⟨h3, h4⟩] at hg
      simp only [Option.some.injEq, Prod.mk.injEq] at hg
      obtain ⟨rfl, rfl⟩ := hg
      rw [if_pos (by simp)]
      simp
theorem getStr_str {s : List UInt8} (h : s.length < 2 ^ 64) (t : List UInt8) : getStr (strB s ++ t) = some (s, t) := getStr_iff.2 ⟨h, rfl⟩

/-- A number in four bytes, the least first. -/
def fixed (n : Nat) : List UInt8 := [byt (n % 256), byt (n / 256 % 256), byt (n / 65536 % 256), byt (n / 16777216 % 256)]
theorem fixed_len (n : Nat) : (fixed n).length = 4 := rfl
def fix4 (a b c d : UInt8) : Nat := a.toNat + 256 * b.toNat + 65536 * c.toNat + 16777216 * d.toNat
theorem fix4_lt (a b c d : UInt8) : fix4 a b c d < 2 ^ 32 := by
  have := u8lt a; have := u8lt b; have := u8lt c; have := u8lt d
  unfold fix4; omega
theorem fix4_fixed {n : Nat} (h : n < 2 ^ 32) : fix4 (byt (n % 256)) (byt (n / 256 % 256)) (byt (n / 65536 % 256)) (byt (n / 16777216 % 256)) = n := by
  unfold fix4
  rw [byt_nat (by omega), byt_nat (by omega), byt_nat (by omega), byt_nat (by omega)]
  omega
theorem fixed_fix4 (a b c d : UInt8) : fixed (fix4 a b c d) = [a, b, c, d] := by
  have ha := u8lt a; have hb := u8lt b; have hc := u8lt c; have hd := u8lt d
  unfold fixed fix4
  rw [show (a.toNat + 256 * b.toNat + 65536 * c.toNat + 16777216 * d.toNat) % 256 = a.toNat by omega,
    show (a.toNat + 256 * b.toNat + 65536 * c.toNat + 16777216 * d.toNat) / 256 % 256 = b.toNat by omega,
    show (a.toNat + 256 * b.toNat + 65536 * c.toNat + 16777216 * d.toNat) / 65536 % 256 = c.toNat by omega,
    show (a.toNat + 256 * b.toNat + 65536 * c.toNat + 16777216 * d.toNat) / 16777216 % 256 = d.toNat by omega]
  simp only [byt_self]
/-- The four bytes at a place, as a number. -/
def fixAt (xs : List UInt8) (i : Nat) : Nat := fix4 (xs.getD i 0) (xs.getD (i + 1) 0) (xs.getD (i + 2) 0) (xs.getD (i + 3) 0)
theorem fixAt_lt (xs : List UInt8) (i : Nat) : fixAt xs i < 2 ^ 32 := fix4_lt _ _ _ _
theorem fixAt_fixed {n : Nat} (h : n < 2 ^ 32) (xs t : List UInt8) : fixAt (xs ++ (fixed n ++ t)) xs.length = n := by
  unfold fixAt fixed
  simp only [List.getD_eq_getElem?_getD, List.getElem?_append_right (Nat.le_refl _), List.getElem?_append_right (show xs.length ≤ xs.length + 1 by omega), List.getElem?_append_right (show xs.length ≤ xs.length + 2 by omega), List.getElem?_append_right (show xs.length ≤ xs.length + 3 by omega), Nat.sub_self, Nat.add_sub_cancel_left]
  exact fix4_fixed h

/-- How many bytes two strings have in common at their beginning. -/
def shared : List UInt8 → List UInt8 → Nat
  | x :: s, y :: t => if x = y then shared s t + 1 else 0
  | _, _ => 0
theorem shared_le : ∀ (s t : List UInt8), shared s t ≤ s.length ∧ shared s t ≤ t.length
  | [], _ => by simp [shared]
  | _ :: _, [] => by simp [shared]
  | x :: s, y :: t => by
    have := shared_le s t
    unfold shared
    split <;> simp <;> omega
theorem shared_take : ∀ (s t : List UInt8), s.take (shared s t) = t.take (shared s t)
  | [], _ => by simp [shared]
  | _ :: _, [] => by simp [shared]
  | x :: s, y :: t => by
    unfold shared
    split
    · next h => rw [List.take_succ_cons, List.take_succ_cons, shared_take s t, h]
    · rfl
/-- The loop's own words: one more in common. -/
theorem shared_iff : ∀ (s t : List UInt8) (n : Nat), n ≤ s.length → n ≤ t.length → s.take n = t.take n → (n = s.length ∨ n = t.length ∨ s[n]? ≠ t[n]?) → shared s t = n
  | [], t, n, h1, _, _, _ => by simp at h1; subst h1; simp [shared]
  | x :: s, [], n, _, h2, _, _ => by simp at h2; subst h2; simp [shared]
  | x :: s, y :: t, 0, _, _, _, h4 => by
    unfold shared
    rw [if_neg]
    rintro rfl
    simp at h4
  | x :: s, y :: t, n + 1, h1, h2, h3, h4 => by
    rw [List.take_succ_cons, List.take_succ_cons] at h3
    obtain ⟨rfl, h5⟩ := List.cons.inj h3
    unfold shared
    rw [if_pos rfl, shared_iff s t n (by simpa using h1) (by simpa using h2) h5 (by simpa using h4)]
end Go.Proofs.YtgnpcenpcmdlfaaGreatDoor

/-
  The checksum of a list of bytes (mathematics).
-/
namespace Go.Proofs.YtgnpcenpcmdlfaaGreatDoor
set_option linter.unusedVariables false
set_option linter.unusedSimpArgs false

/-- One bit. -/
def sh (c : BitVec 32) : BitVec 32 := if c.toNat % 2 = 1 then (c >>> 1) ^^^ 3988292384#32 else c >>> 1
def shN : Nat → BitVec 32 → BitVec 32
  | 0, c => c
  | k + 1, c => sh (shN k c)
/-- One byte. -/
def crcB (c : BitVec 32) (x : UInt8) : BitVec 32 := shN 8 (c ^^^ BitVec.ofNat 32 x.toNat)
def crcTo (c : BitVec 32) (xs : List UInt8) : BitVec 32 := xs.foldl crcB c
def crc (xs : List UInt8) : BitVec 32 := crcTo 4294967295#32 xs ^^^ 4294967295#32
theorem crcTo_snoc (c : BitVec 32) (xs : List UInt8) (x : UInt8) : crcTo c (xs ++ [x]) = crcB (crcTo c xs) x := by simp [crcTo]
theorem crcTo_append (c : BitVec 32) (xs ys : List UInt8) : crcTo c (xs ++ ys) = crcTo (crcTo c xs) ys := by simp [crcTo]

theorem bit0 (c : BitVec 32) : c.getLsbD 0 = decide (c.toNat % 2 = 1) := by
  unfold BitVec.getLsbD
  exact Nat.testBit_zero _
theorem sh_inj {a b : BitVec 32} (h : sh a = sh b) : a = b := by
  have top : ∀ c : BitVec 32, (sh c).getLsbD 31 = c.getLsbD 0 := by
    intro c
    unfold sh
    by_cases h : c.toNat % 2 = 1
    · rw [if_pos h, BitVec.getLsbD_xor, BitVec.getLsbD_ushiftRight, BitVec.getLsbD_of_ge c (1 + 31) (by omega)]
      have : c.getLsbD 0 = true := by rw [bit0]; simp [h]
      rw [this]; decide
    · rw [if_neg h, BitVec.getLsbD_ushiftRight, BitVec.getLsbD_of_ge c (1 + 31) (by omega)]
      have : c.getLsbD 0 = false := by rw [bit0]; simp [h]
      rw [this]
  have low : a.getLsbD 0 = b.getLsbD 0 := by rw [← top a, ← top b, h]
  have par : (a.toNat % 2 = 1) ↔ (b.toNat % 2 = 1) := by
    rw [bit0, bit0] at low
    exact decide_eq_decide.1 low
  have hs : a >>> 1 = b >>> 1 := by
    unfold sh at h
    by_cases q : a.toNat % 2 = 1
    · rw [if_pos q, if_pos (par.1 q)] at h
      exact (BitVec.xor_left_inj _).1 h
    · rw [if_neg q, if_neg (fun r => q (par.2 r))] at h
      exact h
  apply BitVec.eq_of_getLsbD_eq
  intro i hi
  cases i with
  | zero => exact low
  | succ i =>
    have := congrArg (fun x => x.getLsbD i) hs
    simp only [BitVec.getLsbD_ushiftRight] at this
    rw [Nat.add_comm]; exact this
theorem shN_inj : ∀ (k : Nat) {a b : BitVec 32}, shN k a = shN k b → a = b
  | 0, _, _, h => h
  | k + 1, _, _, h => shN_inj k (sh_inj h)
theorem crcB_inj {a b : BitVec 32} {x : UInt8} (h : crcB a x = crcB b x) : a = b := (BitVec.xor_left_inj _).1 (shN_inj 8 h)
theorem crcTo_inj : ∀ (xs : List UInt8) {a b : BitVec 32}, crcTo a xs = crcTo b xs → a = b
  | [], _, _, h => h
  | x :: xs, a, b, h => crcB_inj (crcTo_inj xs (show crcTo (crcB a x) xs = crcTo (crcB b x) xs from h))
/-- One byte changed: another checksum. -/
theorem crc_one {xs ys : List UInt8} {a b : UInt8} (hab : ¬ a = b) : ¬ crc (xs ++ a :: ys) = crc (xs ++ b :: ys) := by
  intro h
  have h1 := (BitVec.xor_left_inj _).1 h
  rw [crcTo_append, crcTo_append] at h1
  have h2 : crcB (crcTo 4294967295#32 xs) a = crcB (crcTo 4294967295#32 xs) b := crcTo_inj ys h1
  have h3 := (BitVec.xor_right_inj _).1 (shN_inj 8 h2)
  apply hab
  apply UInt8.toNat_inj.1
  have h4 := congrArg BitVec.toNat h3
  have ha := u8lt a
  have hb := u8lt b
  rw [BitVec.toNat_ofNat, BitVec.toNat_ofNat, Nat.mod_eq_of_lt (by omega), Nat.mod_eq_of_lt (by omega)] at h4
  exact h4
end Go.Proofs.YtgnpcenpcmdlfaaGreatDoor

/-
  The order of keys: spec.CompareKeys and impl.CompareKeys come to one Lean function.
-/
namespace Go.Proofs.YtgnpcenpcmdlfaaGreatDoor
open Go.ChangeShapes Go.WideShapes Go.ChangeAt Go.RowKit Go.Deep

/-- Two strings against each other. -/
def cB (a b : ByteArray) : Int := Lib.compareBytes a.data.toList b.data.toList

theorem compareBytes_less : ∀ a b : List UInt8, Op.bytesLess a b = true → Lib.compareBytes a b = -1
  | [], [] => by simp [Op.bytesLess]
  | [], _ :: _ => by simp [Lib.compareBytes]
  | _ :: _, [] => by simp [Op.bytesLess]
  | a :: x, b :: y => by
    intro h
    simp only [Op.bytesLess, Bool.or_eq_true, decide_eq_true_eq, Bool.and_eq_true, beq_iff_eq] at h
    unfold Lib.compareBytes
    rcases h with h | ⟨rfl, h⟩
    · rw [if_pos h]
    · have hn : ¬ a < a := by simp
      rw [if_neg hn, if_neg hn]; exact compareBytes_less x y h
theorem compareBytes_self : ∀ a : List UInt8, Lib.compareBytes a a = 0
  | [] => rfl
  | a :: x => by
    unfold Lib.compareBytes
    have hn : ¬ a < a := by simp
    rw [if_neg hn, if_neg hn]; exact compareBytes_self x
theorem compareBytes_more : ∀ a b : List UInt8, Op.bytesLess a b = false → (a == b) = false → Lib.compareBytes a b = 1
  | [], [] => by simp
  | [], _ :: _ => by simp [Op.bytesLess]
  | _ :: _, [] => by simp [Lib.compareBytes]
  | a :: x, b :: y => by
    intro h h2
    simp only [Op.bytesLess, Bool.or_eq_false_iff, decide_eq_false_iff_not] at h
    unfold Lib.compareBytes
    rw [if_neg h.1]
    by_cases hb : b < a
    · rw [if_pos hb]
    · rw [if_neg hb]
      have hab : a = b := by
        have h1 := h.1
        rw [UInt8.lt_iff_toNat_lt] at h1 hb
        exact UInt8.toNat_inj.1 (by omega)
      subst hab
      refine compareBytes_more x y ?_ ?_
      · simpa using h.2
      · simpa using h2
theorem compareBytes_vals (a b : List UInt8) : Lib.compareBytes a b = -1 ∨ Lib.compareBytes a b = 0 ∨ Lib.compareBytes a b = 1 := by
  cases h : Op.bytesLess a b
  · cases h2 : (a == b)
    · exact .inr (.inr (compareBytes_more a b h h2))
    · rw [beq_iff_eq] at h2; subst h2; exact .inr (.inl (compareBytes_self a))
  · exact .inl (compareBytes_less a b h)
theorem cB_vals (a b : ByteArray) : cB a b = -1 ∨ cB a b = 0 ∨ cB a b = 1 := compareBytes_vals _ _
theorem cB_less {a b : ByteArray} (h : Op.bytesLess a.toList b.toList = true) : cB a b = -1 := by
  rw [ByteArray.toList_eq, ByteArray.toList_eq] at h; exact compareBytes_less _ _ h
theorem cB_more {a b : ByteArray} (h : Op.bytesLess a.toList b.toList = false) (h2 : (a.toList == b.toList) = false) : cB a b = 1 := by
  rw [ByteArray.toList_eq, ByteArray.toList_eq] at h h2; exact compareBytes_more _ _ h h2
theorem cB_same {a b : ByteArray} (h2 : (a.toList == b.toList) = true) : cB a b = 0 := by
  rw [ByteArray.toList_eq, ByteArray.toList_eq, beq_iff_eq] at h2; unfold cB; rw [h2]; exact compareBytes_self _

def firstOf (a b : Int) : Int := if a = 0 then b else a
def kindCmp (k l : Int) : Int := if k = 2 then (if l = 2 then 0 else -1) else (if l = 2 then 1 else 0)
def tsCmp (t u : Int) : Int := if u < t then -1 else if t < u then 1 else 0
/-- The order of keys. -/
def keyCmp (a b : Ent) : Int := firstOf (cB a.row b.row) (firstOf (cB a.fam b.fam) (firstOf (cB a.qual b.qual) (firstOf (kindCmp a.kind b.kind) (tsCmp a.ts b.ts))))

theorem ret_int {k : IntKind} {a b : Int} (h : a = b) : Ending.returned (.int k a) = .returned (.int k b) := by rw [h]

end Go.Proofs.YtgnpcenpcmdlfaaGreatDoor

/-
  The order of keys: spec.CompareKeys and impl.CompareKeys come to 'keyCmp'.
-/
namespace Go.Proofs.YtgnpcenpcmdlfaaGreatDoor
open Go.ChangeShapes Go.WideShapes Go.ChangeAt Go.RowKit Go.Deep

def tri (x : Int) : Prop := x = -1 ∨ x = 0 ∨ x = 1
theorem tri_first {a b : Int} (h : tri a) (k : tri b) : tri (firstOf a b) := by
  unfold firstOf; split
  · exact k
  · exact h
theorem tri_kind (k l : Int) : tri (kindCmp k l) := by
  unfold kindCmp tri; repeat' split
  all_goals omega
theorem tri_ts (k l : Int) : tri (tsCmp k l) := by
  unfold tsCmp tri; repeat' split
  all_goals omega
theorem keyCmp_vals (a b : Ent) : keyCmp a b = -1 ∨ keyCmp a b = 0 ∨ keyCmp a b = 1 :=
  tri_first (cB_vals _ _) (tri_first (cB_vals _ _) (tri_first (cB_vals _ _) (tri_first (tri_kind _ _) (tri_ts _ _))))

def colCmp (a b : Ent) : Int := firstOf (cB a.row b.row) (firstOf (cB a.fam b.fam) (cB a.qual b.qual))

theorem firstOf_assoc (a b c : Int) : firstOf (firstOf a b) c = firstOf a (firstOf b c) := by
  unfold firstOf
  by_cases h : a = 0
  · simp [h]
  · simp [h]
theorem keyCmp_col (a b : Ent) : keyCmp a b = firstOf (colCmp a b) (firstOf (kindCmp a.kind b.kind) (tsCmp a.ts b.ts)) := by
  unfold keyCmp colCmp
  rw [firstOf_assoc, firstOf_assoc]
theorem keyCmp_ne {a b : Ent} (h : ¬ colCmp a b = 0) : keyCmp a b = colCmp a b := by
  rw [keyCmp_col]; unfold firstOf; rw [if_neg h]
theorem keyCmp_del1 {a b : Ent} (h : colCmp a b = 0) (h1 : a.kind = 2) (h2 : ¬ b.kind = 2) : keyCmp a b = -1 := by
  rw [keyCmp_col]; unfold firstOf kindCmp; simp [h, h1, h2]
theorem keyCmp_del2 {a b : Ent} (h : colCmp a b = 0) (h1 : ¬ a.kind = 2) (h2 : b.kind = 2) : keyCmp a b = 1 := by
  rw [keyCmp_col]; unfold firstOf kindCmp; simp [h, h1, h2]
theorem keyCmp_ts {a b : Ent} (h : colCmp a b = 0) (h1 : (a.kind = 2) ↔ (b.kind = 2)) : keyCmp a b = tsCmp a.ts b.ts := by
  rw [keyCmp_col]; unfold firstOf kindCmp
  by_cases h2 : a.kind = 2
  · simp [h, h2, h1.1 h2]
  · have h3 : ¬ b.kind = 2 := fun x => h2 (h1.2 x)
    simp [h, h2, h3]

def kt (a b : Ent) (K T : Int) : Prop := keyCmp a b = firstOf (cB a.row b.row) (firstOf (cB a.fam b.fam) (firstOf (cB a.qual b.qual) (firstOf K T)))
theorem kt_of {a b : Ent} {K T : Int} (hk : kindCmp a.kind b.kind = K) (ht : tsCmp a.ts b.ts = T) : kt a b K T := by
  unfold kt keyCmp; rw [hk, ht]
theorem kinds (a b : Ent) :
    ((a.kind == 2) = true ∧ (a.kind != 2) = false ∧ (b.kind == 2) = true ∧ (b.kind != 2) = false ∧ kindCmp a.kind b.kind = 0) ∨
    ((a.kind == 2) = true ∧ (a.kind != 2) = false ∧ (b.kind == 2) = false ∧ (b.kind != 2) = true ∧ kindCmp a.kind b.kind = -1) ∨
    ((a.kind == 2) = false ∧ (a.kind != 2) = true ∧ (b.kind == 2) = true ∧ (b.kind != 2) = false ∧ kindCmp a.kind b.kind = 1) ∨
    ((a.kind == 2) = false ∧ (a.kind != 2) = true ∧ (b.kind == 2) = false ∧ (b.kind != 2) = true ∧ kindCmp a.kind b.kind = 0) := by
  unfold kindCmp
  by_cases ha : a.kind = 2 <;> by_cases hb : b.kind = 2 <;> simp [ha, hb]
theorem tss (a b : Ent) :
    (b.ts < a.ts ∧ ¬ a.ts < b.ts ∧ tsCmp a.ts b.ts = -1) ∨ (¬ b.ts < a.ts ∧ a.ts < b.ts ∧ tsCmp a.ts b.ts = 1) ∨ (¬ b.ts < a.ts ∧ ¬ a.ts < b.ts ∧ tsCmp a.ts b.ts = 0) := by
  unfold tsCmp
  by_cases h1 : b.ts < a.ts
  · exact .inl ⟨h1, by omega, by simp [h1]⟩
  · by_cases h2 : a.ts < b.ts
    · exact .inr (.inl ⟨h1, h2, by simp [h1, h2]⟩)
    · exact .inr (.inr ⟨h1, h2, by simp [h1, h2]⟩)

end Go.Proofs.YtgnpcenpcmdlfaaGreatDoor

/-
  Runs that are valid: spec.ValidRun and impl.ValidRun.
-/
namespace Go.Proofs.YtgnpcenpcmdlfaaGreatDoor
open Go.ChangeShapes Go.WideShapes Go.ChangeAt Go.RowKit Go.Deep
set_option linter.unusedVariables false

def Ent.vld (e : Ent) : Bool := vE e.row e.fam e.qual e.kind e.val
/-- One column? -/
def sameCol (a b : Ent) : Bool := (a.row.toList == b.row.toList) && ((a.fam.toList == b.fam.toList) && (a.qual.toList == b.qual.toList))

theorem lift_in {P : Program} {f : Nat} {args : Array Value} {w : World} {v : Value} (W0 : World) (h : Below W0.heap.size W0 w) (c : Calls P f args w fun e w' => e = .returned v ∧ Below w.heap.size w w') :
    Calls P f args w fun e w' => e = .returned v ∧ Below W0.heap.size W0 w' ∧ (∀ b o, b < W0.heap.size → w'.cell? ⟨b, o, none⟩ = W0.cell? ⟨b, o, none⟩) := by
  refine c.mono ?_
  rintro e w' ⟨he, hb⟩
  have k := h.trans (hb.mono h.size)
  exact ⟨he, k, fun b o hlt => k.cell (p := ⟨b, o, none⟩) hlt⟩

/-- May 'p' stand right before 'e' in a run? -/
def okPair (p e : Ent) : Bool := (keyCmp p e == -1) && !((p.kind == 2) && ((e.kind == 2) && sameCol p e))

end Go.Proofs.YtgnpcenpcmdlfaaGreatDoor

/-
  Runs that are valid: the loops of spec.ValidRun, impl.validWrites, impl.ValidRun.
-/
namespace Go.Proofs.YtgnpcenpcmdlfaaGreatDoor
open Go.ChangeShapes Go.WideShapes Go.ChangeAt Go.RowKit Go.Deep
set_option linter.unusedVariables false

/-- All of them are valid, and not too many. -/
def GoodW (es : List Ent) : Prop := es.length ≤ 10000 ∧ ∀ e ∈ es, e.vld = true
/-- Each may stand right before the next. -/
def Pairs (es : List Ent) : Prop := ∀ i p e, es[i]? = some p → es[i + 1]? = some e → okPair p e = true
def GoodR (es : List Ent) : Prop := GoodW es ∧ Pairs es

theorem iffF {p : Prop} (h : ¬ p) : (false = true ↔ p) := ⟨fun x => Bool.noConfusion x, fun x => absurd x h⟩
theorem iffT {p : Prop} (h : p) : (true = true ↔ p) := ⟨fun _ => h, fun _ => rfl⟩
theorem vld_of_take {es : List Ent} {k : Nat} {e : Ent} (h : ∀ x ∈ es.take k, x.vld = true) (he : es[k]? = some e) (hv : e.vld = true) : ∀ x ∈ es.take (k + 1), x.vld = true := by
  intro x hx
  rw [List.take_add_one, he] at hx
  simp at hx
  rcases hx with hx | rfl
  · exact h x hx
  · exact hv

theorem pairs_short {es : List Ent} (h : es.length ≤ 1) : Pairs es := by
  intro i p e h1 h2
  have := (List.getElem?_eq_some_iff.1 h2).1
  omega

/-- The pairs below place 'k'. -/
def PairsTo (es : List Ent) (k : Nat) : Prop := ∀ i p e, i + 1 < k → es[i]? = some p → es[i + 1]? = some e → okPair p e = true
theorem pairsTo_succ {es : List Ent} {m : Nat} {p e : Ent} (h : PairsTo es (m + 1)) (hp : es[m]? = some p) (he : es[m + 1]? = some e) (ho : okPair p e = true) : PairsTo es (m + 1 + 1) := by
  intro i p' e' hi h1 h2
  by_cases hm : i = m
  · subst hm
    rw [hp] at h1; rw [he] at h2
    simp at h1 h2
    subst h1 h2
    exact ho
  · exact h i p' e' (by omega) h1 h2
theorem pairs_of_to {es : List Ent} {k : Nat} (h : PairsTo es k) (hk : es.length ≤ k) : Pairs es := by
  intro i p e h1 h2
  have := (List.getElem?_eq_some_iff.1 h2).1
  exact h i p e (by omega) h1 h2

end Go.Proofs.YtgnpcenpcmdlfaaGreatDoor

/-
  The body of a block, the file of a run (mathematics).
-/
namespace Go.Proofs.YtgnpcenpcmdlfaaGreatDoor
set_option linter.unusedVariables false
set_option linter.unusedSimpArgs false

/-- The bytes of a string. -/
abbrev bl (s : ByteArray) : List UInt8 := s.data.toList
theorem bl_len (s : ByteArray) : (bl s).length = s.size := by simp [bl]
theorem wf_u64 {t : Int} (h : (Lit.int .u64 t).wf = true) : 0 ≤ t ∧ t < 2 ^ 64 := by
  simp only [Lit.wf, Bool.and_eq_true, decide_eq_true_eq] at h
  have h1 : IntKind.u64.min = 0 := rfl
  have h2 : IntKind.u64.max = 18446744073709551615 := rfl
  omega
/-- One entry behind a row. -/
def entB (before : List UInt8) (e : Ent) : List UInt8 :=
  num (shared before (bl e.row)) ++ strB ((bl e.row).drop (shared before (bl e.row))) ++ strB (bl e.fam) ++ strB (bl e.qual) ++ num e.ts.toNat ++ num e.kind.toNat ++ strB (bl e.val)
def body : List UInt8 → List Ent → List UInt8
  | _, [] => []
  | b, e :: es => entB b e ++ body (bl e.row) es
/-- The row ahead. -/
def lastRow : List UInt8 → List Ent → List UInt8
  | b, [] => b
  | _, e :: es => lastRow (bl e.row) es
theorem body_snoc : ∀ (b : List UInt8) (es : List Ent) (e : Ent), body b (es ++ [e]) = body b es ++ entB (lastRow b es) e
  | b, [], e => by simp [body, lastRow]
  | b, x :: es, e => by rw [List.cons_append, body, body, body_snoc (bl x.row) es e, List.append_assoc]; rfl
theorem lastRow_snoc : ∀ (b : List UInt8) (es : List Ent) (e : Ent), lastRow b (es ++ [e]) = bl e.row
  | _, [], _ => rfl
  | _, x :: es, e => lastRow_snoc (bl x.row) es e
theorem vld_parts {e : Ent} (h : e.vld = true) : 1 ≤ e.row.size ∧ e.row.size ≤ 64 ∧ 1 ≤ e.fam.size ∧ e.fam.size ≤ 16 ∧ e.qual.size ≤ 64 ∧ e.val.size ≤ 200 ∧ 0 ≤ e.kind ∧ e.kind ≤ 2 := by
  unfold Ent.vld vE at h
  simp only [Bool.and_eq_true, decide_eq_true_eq] at h
  omega
theorem strB_len {s : List UInt8} (h : s.length < 2 ^ 64) : (strB s).length ≤ 10 + s.length := by
  unfold strB
  have := num_len64 h
  simp; omega
theorem num_kind {k : Nat} (h : k ≤ 2) : (num k).length = 1 := by rw [num_small (by omega)]; rfl
theorem entB_len {b : List UInt8} {e : Ent} (h : e.vld = true) (ht : e.ts.toNat < 2 ^ 64) : (entB b e).length ≤ 500 := by
  obtain ⟨h1, h2, h3, h4, h5, h6, h7, h8⟩ := vld_parts h
  have l0 := (shared_le b (bl e.row)).2
  rw [bl_len] at l0
  have l1 := num_len64 (n := shared b (bl e.row)) (by omega)
  have l2 := strB_len (s := (bl e.row).drop (shared b (bl e.row))) (by simp only [List.length_drop, bl_len]; omega)
  have l3 := strB_len (s := bl e.fam) (by rw [bl_len]; omega)
  have l4 := strB_len (s := bl e.qual) (by rw [bl_len]; omega)
  have l5 := num_len64 (n := e.ts.toNat) ht
  have l6 := num_len64 (n := e.kind.toNat) (by omega)
  have l7 := strB_len (s := bl e.val) (by rw [bl_len]; omega)
  simp only [List.length_drop, bl_len] at l2 l3 l4 l7
  unfold entB
  simp only [List.length_append]
  omega
theorem body_len : ∀ (es : List Ent) (b : List UInt8), (∀ e ∈ es, e.vld = true) → (∀ e ∈ es, e.ts.toNat < 2 ^ 64) → (body b es).length ≤ 500 * es.length
  | [], b, _, _ => by simp [body]
  | e :: es, b, h, k => by
    have h1 := entB_len (b := b) (h e (by simp)) (k e (by simp))
    have h2 := body_len es (bl e.row) (fun x hx => h x (by simp [hx])) (fun x hx => k x (by simp [hx]))
    simp only [body, List.length_append, List.length_cons]
    omega
theorem body_pos {b : List UInt8} {es : List Ent} (h : 0 < es.length) : 0 < (body b es).length := by
  cases es with
  | nil => simp at h
  | cons e es =>
    have := num_pos (shared b (bl e.row))
    simp only [body, entB, List.length_append]
    omega
end Go.Proofs.YtgnpcenpcmdlfaaGreatDoor

/-
  The text of a filter, without memory.
-/
namespace Go.Proofs.YtgnpcenpcmdlfaaGreatDoor
open Go.ChangeShapes Go.WideShapes Go.ChangeAt Go.RowKit Go.Deep
set_option linter.unusedVariables false
set_option linter.unusedSimpArgs false

def hexB (n : Nat) : UInt8 := if n < 10 then UInt8.ofNat (48 + n) else UInt8.ofNat (87 + n)
/-- A byte within quotes. -/
def qByte (b : UInt8) : List UInt8 := if b.toNat = 34 ∨ b.toNat = 92 then [92, b] else if 32 ≤ b.toNat ∧ b.toNat ≤ 126 then [b] else [92, 120, hexB (b.toNat / 16), hexB (b.toNat % 16)]
theorem qByte_len (b : UInt8) : (qByte b).length ≤ 4 := by
  unfold qByte
  split
  · simp
  · split <;> simp
def quoL (s : List UInt8) : List UInt8 := s.flatMap qByte
theorem quoL_len (s : List UInt8) : (quoL s).length ≤ 4 * s.length := by
  induction s with
  | nil => simp [quoL]
  | cons b s ih => unfold quoL at ih ⊢; rw [List.flatMap_cons, List.length_append, List.length_cons]; have := qByte_len b; omega
theorem quoL_snoc (s : List UInt8) (b : UInt8) : quoL (s ++ [b]) = quoL s ++ qByte b := by simp [quoL]
def quoM (s : List UInt8) : List UInt8 := [34] ++ quoL s ++ [34]
theorem quoM_len (s : List UInt8) : (quoM s).length ≤ 4 * s.length + 2 := by unfold quoM; have := quoL_len s; simp; omega
/-- The words, by kind. -/
def wordA (k : Int) : ByteArray :=
  if k = 1 then ⟨#[112, 97, 115, 115]⟩ else if k = 2 then ⟨#[98, 108, 111, 99, 107]⟩ else if k = 3 then ⟨#[115, 116, 114, 105, 112]⟩ else if k = 4 then ⟨#[114, 111, 119]⟩
  else if k = 5 then ⟨#[102, 97, 109]⟩ else if k = 6 then ⟨#[113, 117, 97, 108]⟩ else if k = 7 then ⟨#[118, 97, 108]⟩ else if k = 8 then ⟨#[114, 111, 119, 115]⟩
  else if k = 9 then ⟨#[113, 117, 97, 108, 115]⟩ else if k = 10 then ⟨#[116, 115]⟩ else if k = 11 then ⟨#[118, 101, 114, 115, 105, 111, 110, 115]⟩ else if k = 12 then ⟨#[99, 101, 108, 108, 115]⟩
  else if k = 13 then ⟨#[115, 107, 105, 112]⟩ else ⟨#[]⟩
theorem wordA_len (k : Int) : (bl (wordA k)).length ≤ 8 := by
  rw [bl_len]
  have gen : ∀ (p : Prop) [Decidable p] (a b : ByteArray), a.size ≤ 8 → b.size ≤ 8 → (if p then a else b).size ≤ 8 := by
    intro p _ a b ha hb
    split
    · exact ha
    · exact hb
  unfold wordA
  repeat' (first | (apply gen) | decide)
/-- A text or a number, where there is one. -/
def endM (t : List UInt8) (n : Int) : List UInt8 := if t = [] then (if n = 0 then [] else Lib.decDigits n.toNat) else quoM t
def tailM (e : Nd) : List UInt8 :=
  if e.kind = 4 ∨ e.kind = 5 ∨ e.kind = 6 ∨ e.kind = 7 then [32] ++ quoM (bl e.s)
  else if e.kind = 8 ∨ e.kind = 9 ∨ e.kind = 10 then [32] ++ endM (bl e.s) e.lo ++ [46, 46] ++ endM (bl e.t) e.up
  else if e.kind = 11 ∨ e.kind = 12 ∨ e.kind = 13 then [32] ++ Lib.decDigits e.n.toNat else []
def leafM (e : Nd) : List UInt8 := bl (wordA e.kind) ++ tailM e
theorem decDigits_len : ∀ (f n : Nat), n < 10 ^ (f + 1) → (Lib.decDigits n).length ≤ f + 1
  | 0, n, h => by
    rw [Lib.decDigits, dif_pos (by simpa using h)]; simp
  | f + 1, n, h => by
    rw [Lib.decDigits]
    split
    · simp
    · have := decDigits_len f (n / 10) (by rw [Nat.div_lt_iff_lt_mul (by omega), ← Nat.pow_succ]; exact h)
      rw [List.length_append, List.length_singleton]
      omega
theorem dec64_len {n : Nat} (h : n < 2 ^ 64) : (Lib.decDigits n).length ≤ 20 := decDigits_len 19 n (Nat.lt_trans h (by decide))
theorem bl_nil {s : ByteArray} : bl s = [] ↔ s.toList = [] := by rw [ByteArray.toList_eq]
/-- The numbers of a node are numbers of their types. -/
structure NumN (e : Nd) : Prop where
  lo0 : 0 ≤ e.lo
  lo1 : e.lo < 2 ^ 64
  up0 : 0 ≤ e.up
  up1 : e.up < 2 ^ 64
theorem endM_len {t : List UInt8} {n : Int} (ht : t.length ≤ 200) (h0 : 0 ≤ n) (h1 : n < 2 ^ 64) : (endM t n).length ≤ 802 := by
  unfold endM
  split
  · split
    · simp
    · have := dec64_len (n := n.toNat) (by omega); omega
  · have := quoM_len t; omega
theorem leafM_len {e : Nd} (h : GoodN e) (hn : NumN e) : (leafM e).length ≤ 2000 := by
  have hs : (bl e.s).length ≤ 200 := by rw [bl_len]; exact h.1
  have ht : (bl e.t).length ≤ 200 := by rw [bl_len]; exact h.2.1
  have h1 := wordA_len e.kind
  have h2 := quoM_len (bl e.s)
  have h3 := endM_len hs hn.lo0 hn.lo1
  have h4 := endM_len ht hn.up0 hn.up1
  have h5 : (tailM e).length ≤ 1700 := by
    unfold tailM
    split
    · simp; omega
    · split
      · simp; omega
      · split
        · rename_i q1 q2 q3
          have h9 : e.n ≤ 1000 ∧ 1 ≤ e.n := by
            obtain ⟨_, _, _, h4⟩ := h
            omega
          have := dec64_len (n := e.n.toNat) (by omega)
          simp; omega
        · simp
  unfold leafM
  rw [List.length_append]
  omega
/-- A printed tree: its kind and its text. -/
abbrev PT := Int × List UInt8
def wrapB (op : Int) (i : Nat) (kid : Int) : Bool := if op = 16 then false else level op i kid
def wrapT (op : Int) (i : Nat) (x : PT) : List UInt8 := if wrapB op i x.1 = true then [40] ++ x.2 ++ [41] else x.2
theorem wrapT_len (op : Int) (i : Nat) (x : PT) : (wrapT op i x).length ≤ x.2.length + 2 := by
  unfold wrapT
  split
  · simp
  · omega
def sepM (k : Int) : List UInt8 := if k = 16 then [44, 32] else if k = 15 then [32, 124, 32] else [32, 62, 32]
def joinM (k : Int) : Nat → List PT → List UInt8
  | _, [] => []
  | i, x :: xs => (if i = 0 then [] else sepM k) ++ wrapT k i x ++ joinM k (i + 1) xs
def printV (e : Nd) (os : List PT) : PT := (e.kind, if os = [] then leafM e else (if e.kind = 16 then [105, 102, 40] else []) ++ joinM e.kind 0 os ++ (if e.kind = 16 then [41] else []))
def sizeP (ss : List PT) : Nat := (ss.map (·.2.length)).sum
theorem sizeP_append (a b : List PT) : sizeP (a ++ b) = sizeP a + sizeP b := by simp [sizeP]
theorem joinM_len (k : Int) : ∀ (i : Nat) (os : List PT), (joinM k i os).length ≤ sizeP os + 5 * os.length
  | _, [] => by simp [joinM]
  | i, x :: xs => by
    have h1 := joinM_len k (i + 1) xs
    have h2 := wrapT_len k i x
    have h3 : (if i = 0 then [] else sepM k).length ≤ 3 := by
      unfold sepM
      repeat' split
      all_goals simp
    simp only [joinM, List.length_append, sizeP, List.map_cons, List.sum_cons, List.length_cons]
    unfold sizeP at h1
    omega
theorem print_len {ss : List PT} {xs : List Nd} (h : TrV printV ss xs) (hg : ∀ e ∈ xs, GoodN e ∧ NumN e) : sizeP ss ≤ 2000 * xs.length := by
  induction h with
  | nil => simp [sizeP]
  | @snoc ss os xs n ho h ih =>
    have h1 := ih (fun e he => hg e (by simp [he]))
    rw [sizeP_append] at h1 ⊢
    have h2 : (printV n os).2.length ≤ sizeP os + 2000 := by
      unfold printV
      simp only
      split
      · have := leafM_len (hg n (by simp)).1 (hg n (by simp)).2
        omega
      · have h3 := joinM_len n.kind 0 os
        have h4 : os.length ≤ 3 := by rw [ho]; exact arity_le _
        have h5 : (if n.kind = 16 then [105, 102, 40] else ([] : List UInt8)).length ≤ 3 := by split <;> simp
        have h6 : (if n.kind = 16 then [41] else ([] : List UInt8)).length ≤ 1 := by split <;> simp
        simp only [List.length_append]
        omega
    have h7 : sizeP [printV n os] = (printV n os).2.length := by simp [sizeP]
    rw [List.length_append, List.length_singleton, h7]
    omega
theorem joinM_snoc (k : Int) : ∀ (i : Nat) (os : List PT) (x : PT), joinM k i (os ++ [x]) = joinM k i os ++ ((if i + os.length = 0 then [] else sepM k) ++ wrapT k (i + os.length) x)
  | i, [], x => by simp [joinM]
  | i, y :: os, x => by
    rw [List.cons_append, joinM, joinM_snoc k (i + 1) os x, joinM, List.length_cons]
    rw [show i + 1 + os.length = i + (os.length + 1) by omega]
    simp only [List.append_assoc]
/-- The text of a filter. -/
def TextF (xs : List Nd) (y : PT) : Prop := TrV printV [y] xs
theorem textF_one {xs : List Nd} {y z : PT} (h : TextF xs y) (k : TextF xs z) : y = z := by
  have := TrV.one _ h k
  simpa using this
theorem textF_ex {xs : List Nd} (h : IsT 1 xs) : ∃ y, TextF xs y := by
  obtain ⟨ss, hl, hs⟩ := IsT.trv printV h
  match ss, hl with
  | [y], _ => exact ⟨y, hs⟩
theorem textF_len {xs : List Nd} {y : PT} (h : TextF xs y) (hg : ∀ e ∈ xs, GoodN e ∧ NumN e) : y.2.length ≤ 2000 * xs.length := by
  have := print_len h hg
  simpa [sizeP] using this
end Go.Proofs.YtgnpcenpcmdlfaaGreatDoor

/-
  Bytes in memory.
-/
namespace Go.Proofs.YtgnpcenpcmdlfaaGreatDoor
open Go.ChangeShapes Go.WideShapes Go.ChangeAt Go.RowKit Go.Deep
set_option linter.unusedVariables false
set_option linter.unusedSimpArgs false
set_option maxRecDepth 100000

abbrev ub (x : UInt8) : Value := .int .u8 (x.toNat : Int)
/-- The bytes lie there. -/
def BysAt (w : World) (b off : Nat) (xs : List UInt8) : Prop := ∀ i x, xs[i]? = some x → w.cell? ⟨b, off + i, none⟩ = some (ub x)
theorem BysAt.below {B : Nat} {w w' : World} {b off : Nat} {xs : List UInt8} (h : BysAt w b off xs) (hb : Below B w w') (hlt : b < B) : BysAt w' b off xs := by
  intro i x hx
  rw [hb.cell (p := ⟨b, off + i, none⟩) hlt]
  exact h i x hx

theorem xor32 (s t : BitVec 32) {x : Int} (hx : x = (t.toNat : Int)) : bits .xor .u32 (s.toNat : Int) x = ((s ^^^ t).toNat : Int) := by
  subst hx
  have h1 : BitVec.ofInt 32 (s.toNat : Int) = s := by simp
  have h2 : BitVec.ofInt 32 (t.toNat : Int) = t := by simp
  show IntKind.wrap .u32 ((BitVec.ofInt 32 (s.toNat : Int) ^^^ BitVec.ofInt 32 (t.toNat : Int)).toNat : Int) = _
  rw [h1, h2]
  have := (s ^^^ t).isLt
  simp only [IntKind.wrap, IntKind.bits, IntKind.signed, Bool.false_and, Bool.false_eq_true, if_false]
  omega
end Go.Proofs.YtgnpcenpcmdlfaaGreatDoor

/-
  Bytes of the call's own; append; l2Num, l2Cat, l2Str, l2Fixed, l2Shared.
-/
namespace Go.Proofs.YtgnpcenpcmdlfaaGreatDoor
open Go.ChangeShapes Go.WideShapes Go.ChangeAt Go.RowKit Go.Deep
set_option linter.unusedVariables false
set_option linter.unusedSimpArgs false
set_option maxRecDepth 100000

/-- A row of bytes of the call's own. -/
def OwnY (w : World) (base g cp : Nat) (xs : List UInt8) : Prop := w.ownsRow base 5 1 (.slice (some ⟨g, 0, none⟩) xs.length cp) xs.length (xs.map ub)
theorem OwnY.lt {w : World} {base g cp : Nat} {xs : List UInt8} (h : OwnY w base g cp xs) : base ≤ g ∧ g < w.heap.size := World.ownsRow.lt h g rfl
theorem OwnY.chg {S : Nat → Prop} {w w' : World} {base g cp : Nat} {xs : List UInt8} (h : OwnY w base g cp xs) (hc : Chg S w w') (hn : ¬ S g) : OwnY w' base g cp xs := own_chg h hc (fun k q => by simp [Value.ownBlock] at q; subst q; exact hn)
theorem OwnY.below {w w' : World} {base g cp : Nat} {xs : List UInt8} (h : OwnY w base g cp xs) (hb : Below w.heap.size w w') : OwnY w' base g cp xs := h.chg (Chg.of_below hb) (S := fun _ => False) (fun q => q)
theorem OwnY.at {w : World} {base g cp : Nat} {xs : List UInt8} (h : OwnY w base g cp xs) : BysAt w g 0 xs := by
  intro k x hx
  have hk := (List.getElem?_eq_some_iff.1 hx).1
  rw [Nat.zero_add, World.ownsRow.cellAt h k (by omega), List.getElem?_map, hx]; rfl
theorem OwnY.caps {w : World} {base g cp : Nat} {xs : List UInt8} (h : OwnY w base g cp xs) : xs.length ≤ cp ∧ cp ≤ maxLen := by
  rcases h.2 with ⟨h0, _⟩ | ⟨g', cap', cur, hv, _, _, hn, hcap, _, _⟩
  · cases h0
  · simp only [Value.slice.injEq, Option.some.injEq, Addr.mk.injEq, and_true, true_and] at hv
    obtain ⟨rfl, rfl⟩ := hv
    exact ⟨hn, hcap⟩
theorem OwnY.mono {w : World} {base base' g cp : Nat} {xs : List UInt8} (h : OwnY w base g cp xs) (hb : base' ≤ base) : OwnY w base' g cp xs := by
  refine ⟨h.1, ?_⟩
  rcases h.2 with hn | ⟨g', cap', cur, hv, h1, rest⟩
  · exact .inl hn
  · exact .inr ⟨g', cap', cur, hv, Nat.le_trans hb h1, rest⟩
theorem ub_one (xs : List UInt8) : ∀ u ∈ xs.map ub, u.oneCell' = true := by
  intro u hu
  obtain ⟨r, _, rfl⟩ := List.mem_map.1 hu
  rfl
theorem Tryz.infoByte : (Tryz.prog.info? 5).map (fun i => (i.zero, i.size, i.bytes)) = some (some (.int .u8 0), 1, 1) := by kernel_rfl
/-- Bytes appended to a row of the call's own. -/
theorem wpList_append_bys {ops : Array Oper} {rest : List Oper} {o : Oper} {a : Act} {Q : Exit → Act → World → Prop} (w : World) (hgd : o.guard = none) (s x : Operand)
    (ho : o.op = .call { callee := .builtin .append, args := #[s, x], argTypes := #[22, 22] })
    (base g cp n b off m cx : Nat) (l k : List UInt8) (hs : a.eval s = .slice (some ⟨g, 0, none⟩) n cp) (hx : a.eval x = .slice (some ⟨b, off, none⟩) m cx) (hn : n = l.length) (hm : m = k.length) (hO : OwnY w base g cp l)
    (hc : BysAt w b off k) (hlen : l.length + k.length ≤ 2 ^ 30) (hbase : base ≤ w.heap.size)
    (h : ∀ g' cp' w', OwnY w' base g' cp' (l ++ k) → w.grownBy w' (some g) → (g' = g ∨ g' = w.heap.size) → wpList Tryz.prog ops Q rest (a.put o.dst (.slice (some ⟨g', 0, none⟩) (n + m) cp')) w') : wpList Tryz.prog ops Q (o :: rest) a w := by
  subst hn hm
  obtain ⟨i, hi, hz0, hz1, hz2⟩ := info_parts Tryz.infoByte
  refine wpList_append_own_at w hgd s x 22 ho base 5 i _ 1 1 Tryz.underlying22 hi hz0 hz1 hz2 rfl (by decide) (.slice (some ⟨g, 0, none⟩) l.length cp) l.length (l.map ub) hs hO ⟨b, off, none⟩ k.length cx (k.map ub) hx (by simp) ?_ (ub_one k) ?_ ?_ hbase ?_
  · intro j u hu
    rw [List.getElem?_map] at hu
    cases hk : k[j]? with
    | none => rw [hk] at hu; cases hu
    | some r =>
      rw [hk] at hu
      simp at hu
      rw [Addr.add_mid, hc j r hk, ← hu]
  · unfold maxLen; omega
  · omega
  · intro v' w' hO' hgr hnil hat
    rcases hO'.2 with ⟨h0, _⟩ | ⟨g', cap', cur, hv, _, _, hn, hcap, _, _⟩
    · have := (hnil.1 h0).1
      cases this
    · subst hv
      refine h g' cap' w' ?_ hgr ?_
      · unfold OwnY
        rw [List.length_append, List.map_append]
        exact hO'
      · simp [Value.ownBlock] at hat
        exact hat
theorem ownY_new (w : World) {base : Nat} (hb : base ≤ w.heap.size) : OwnY (w.alloc (Obj.cells #[] 5)) base w.heap.size 0 [] :=
  World.ownsRow_made w #[] 0 hb (Nat.zero_le _) (by simp)
theorem ownY_one (w : World) {base : Nat} (hb : base ≤ w.heap.size) (x : UInt8) {v : Int} (hv : v = (x.toNat : Int)) : OwnY (w.alloc (Obj.cells #[.int .u8 v] 5)) base w.heap.size 1 [x] := by
  subst hv
  exact World.ownsRow_lit w #[ub x] 1 hb (by decide) rfl

end Go.Proofs.YtgnpcenpcmdlfaaGreatDoor

/-
  l2Str, l2Shared.
-/
namespace Go.Proofs.YtgnpcenpcmdlfaaGreatDoor
open Go.ChangeShapes Go.WideShapes Go.ChangeAt Go.RowKit Go.Deep
set_option linter.unusedVariables false
set_option linter.unusedSimpArgs false
set_option maxRecDepth 100000

theorem below_bytes (w : World) (s : ByteArray) : Below w.heap.size w (Lib.bytesWorld w 5 s) :=
  ⟨rfl, rfl, rfl, by rw [Lib.bytesWorld_size]; omega, fun k hk => Lib.bytesWorld_at_old w _ s k hk⟩
theorem bys_bytes (w : World) (s : ByteArray) : BysAt (Lib.bytesWorld w 5 s) w.heap.size 0 (bl s) := by
  intro i x hx
  have hi := (List.getElem?_eq_some_iff.1 hx).1
  rw [Nat.zero_add, Lib.bytesWorld_cell w _ s i (by rw [← bl_len]; exact hi), List.getD_eq_getElem?_getD, hx]
  rfl

end Go.Proofs.YtgnpcenpcmdlfaaGreatDoor

/-
  Bytes that are written on, wherever they came from.
-/
namespace Go.Proofs.YtgnpcenpcmdlfaaGreatDoor
open Go.ChangeShapes Go.WideShapes Go.ChangeAt Go.RowKit Go.Deep
set_option linter.unusedVariables false
set_option linter.unusedSimpArgs false
set_option maxRecDepth 100000

/-- Bytes in a block of the call's own; what lies behind them up to the capacity may be written. -/
structure WrB (w : World) (base g cp : Nat) (xs : List UInt8) : Prop where
  le : base ≤ g
  lt : g < w.heap.size
  at_ : BysAt w g 0 xs
  len : xs.length ≤ cp
  cap : cp ≤ maxLen
  room : ∀ j, xs.length ≤ j → j < cp → (w.cell? ⟨g, j, none⟩).isSome = true ∧ w.frozen? ⟨g, j, none⟩ = false
theorem WrB.chg {S : Nat → Prop} {w w' : World} {base g cp : Nat} {xs : List UInt8} (h : WrB w base g cp xs) (hc : Chg S w w') (hn : ¬ S g) : WrB w' base g cp xs := by
  refine ⟨h.le, by have := hc.size; have := h.lt; omega, ?_, h.len, h.cap, fun j h1 h2 => ?_⟩
  · intro i x hx
    rw [hc.cell (p := ⟨g, 0 + i, none⟩) h.lt hn]; exact h.at_ i x hx
  · rw [hc.cell (p := ⟨g, j, none⟩) h.lt hn, hc.frozen (p := ⟨g, j, none⟩) h.lt hn]; exact h.room j h1 h2
theorem WrB.below {w w' : World} {base g cp : Nat} {xs : List UInt8} (h : WrB w base g cp xs) (hb : Below w.heap.size w w') : WrB w' base g cp xs := h.chg (Chg.of_below hb) (S := fun _ => False) (fun q => q)
theorem WrB.mono {w : World} {base base' g cp : Nat} {xs : List UInt8} (h : WrB w base g cp xs) (hb : base' ≤ base) : WrB w base' g cp xs := ⟨Nat.le_trans hb h.le, h.lt, h.at_, h.len, h.cap, h.room⟩
theorem OwnY.wr {w : World} {base g cp : Nat} {xs : List UInt8} (h : OwnY w base g cp xs) : WrB w base g cp xs := by
  refine ⟨h.lt.1, h.lt.2, h.at, h.caps.1, h.caps.2, fun j h1 h2 => ⟨?_, World.ownsRow.frozenAt h j⟩⟩
  rcases h.2 with ⟨h0, _⟩ | ⟨g', cap', cur, hv, _, hg, hn, hcap, hcs, _⟩
  · cases h0
  · simp only [Value.slice.injEq, Option.some.injEq, Addr.mk.injEq, and_true, true_and] at hv
    obtain ⟨rfl, rfl⟩ := hv
    rw [cell_of_row w g j cur _ _ hg]
    have hj : j < cur.size := by rw [hcs]; omega
    simp [hj]
theorem wrB_bytes (w : World) (s : ByteArray) (hs : s.size ≤ 2 ^ 30) : WrB (Lib.bytesWorld w 5 s) w.heap.size w.heap.size (grownCap w s.size 0 5) (bl s) := by
  have hge := grownCap_ge w s.size 0 5
  have hsz : (Lib.bytesCells w 5 s).size = grownCap w s.size 0 5 := by
    simp only [Lib.bytesCells, Array.size_append, Array.size_map, Array.size_replicate]
    show s.size + _ = _
    omega
  refine ⟨Nat.le_refl _, by rw [Lib.bytesWorld_size]; omega, bys_bytes w s, by rw [bl_len]; exact hge, grownCap_le_maxLen w s.size 0 _ (by unfold maxLen; omega), fun j h1 h2 => ?_⟩
  have hn := Lib.bytesWorld_at_new w 5 s
  constructor
  · rw [cell_of_row _ _ _ _ _ _ hn]
    have hj : j < (Lib.bytesCells w 5 s).size := by omega
    simp [hj]
  · simp only [World.frozen?, hn, Bool.and_eq_false_iff, decide_eq_false_iff_not]
    left
    omega
/-- A literal's row: full. -/
theorem WrB.full {w : World} {base g : Nat} {xs : List UInt8} (h1 : base ≤ g) (h2 : g < w.heap.size) (h3 : BysAt w g 0 xs) (h4 : xs.length ≤ 2 ^ 30) : WrB w base g xs.length xs :=
  ⟨h1, h2, h3, Nat.le_refl _, by unfold maxLen; omega, fun j a b => by omega⟩
theorem setCells_heap (b : Nat) : ∀ (vs : List Value) (o : Nat) (w : World), w.grownBy (w.setCells b o vs) (some b)
  | [], _, w => grown_of_below (Below.refl _ _) _
  | v :: r, o, w => (grown_set w b o v).trans (setCells_heap b r (o + 1) _)
/-- What an append onto such bytes does. -/
theorem run_append_wr (w : World) (ty : TypeId) (base g cp b off cx : Nat) (l k : List UInt8) (hO : WrB w base g cp l)
    (hc : BysAt w b off k) (hlen : l.length + k.length ≤ 2 ^ 30) (hbase : base ≤ w.heap.size) :
    ∃ g' cp' w', (Builtin.append_ #[22, 22] ty #[.slice (some ⟨g, 0, none⟩) l.length cp, .slice (some ⟨b, off, none⟩) k.length cx]).run Tryz.prog w = .ok (.slice (some ⟨g', 0, none⟩) (l.length + k.length) cp') w' ∧ WrB w' base g' cp' (l ++ k) ∧ w.grownBy w' (some g) ∧ (g' = g ∨ w.heap.size ≤ g') := by
  obtain ⟨i, hi, hz0, hz1, hz2⟩ := info_parts Tryz.infoByte
  have hcc : ∀ (j : Nat) (u : Value), (k.map ub)[j]? = some u → w.cell? ((⟨b, off, none⟩ : Addr).add j) = some u := by
    intro j u hu
    rw [List.getElem?_map] at hu
    cases hk : k[j]? with
    | none => rw [hk] at hu; cases hu
    | some r =>
      rw [hk] at hu
      simp at hu
      rw [Addr.add_mid, hc j r hk, ← hu]
  have hll : (l ++ k).length = l.length + k.length := List.length_append
  by_cases hroom : l.length + k.length ≤ cp
  · have hr := run_append_room_cells (P := Tryz.prog) w 22 ty 5 i Tryz.underlying22 hi g 0 l.length cp ⟨b, off, none⟩ k.length cx (k.map ub) (by rw [List.length_map, hz1, Nat.mul_one]) hcc (ub_one k) hroom
      (fun j hj => by rw [hz1, Nat.mul_one, Nat.zero_add]; rw [List.length_map] at hj; exact (hO.room _ (by omega) (by omega)).1)
      (fun j hj => by rw [hz1, Nat.mul_one, Nat.zero_add]; rw [List.length_map] at hj; exact (hO.room _ (by omega) (by omega)).2)
    rw [hz1, Nat.mul_one, Nat.zero_add] at hr
    have hgr := setCells_heap g (k.map ub) l.length w
    have hW : WrB (w.setCells g l.length (k.map ub)) base g cp (l ++ k) := by
      refine ⟨hO.le, by have := hgr.size; have := hO.lt; omega, ?_, by rw [hll]; exact hroom, hO.cap, fun j h1 h2 => ?_⟩
      · intro j x hx
        rw [Nat.zero_add]
        by_cases hj : j < l.length
        · rw [List.getElem?_append_left hj] at hx
          rw [World.cell?_setCells_out g _ _ _ _ (fun _ _ => .inl hj)]
          have := hO.at_ j x hx
          rwa [Nat.zero_add] at this
        · rw [List.getElem?_append_right (by omega)] at hx
          have hjk := (List.getElem?_eq_some_iff.1 hx).1
          have h9 := World.cell?_setCells_in g (k.map ub) l.length w (fun j hj => by rw [List.length_map] at hj; exact (hO.room _ (by omega) (by omega)).1) (j - l.length) (by rw [List.length_map]; exact hjk)
          rw [show l.length + (j - l.length) = j by omega] at h9
          rw [h9, List.getElem_map]
          congr 1
          rw [List.getElem?_eq_getElem hjk] at hx
          rw [Option.some.inj hx]
      · rw [hll] at h1
        rw [World.cell?_setCells_out g _ _ _ _ (fun _ _ => .inr (by rw [List.length_map]; exact h1)), World.frozen?_setCells]
        exact hO.room j (by omega) h2
    exact ⟨g, cp, _, hr, hW, hgr, .inl rfl⟩
  · obtain ⟨v', w', hr, hO', hgr⟩ := run_append_arg_grows (P := Tryz.prog) w 22 ty 5 i _ 1 1 Tryz.underlying22 hi hz0 hz1 hz2 rfl (by decide) ⟨g, 0, none⟩ l.length cp (l.map ub) (by simp) (fun j u hu => by
        rw [List.getElem?_map] at hu
        cases hk : l[j]? with
        | none => rw [hk] at hu; cases hu
        | some r =>
          rw [hk] at hu
          simp at hu
          rw [Addr.add_mid, hO.at_ j r hk, ← hu]) ⟨b, off, none⟩ k.length cx (k.map ub) (by simp) hcc (by omega) (by unfold maxLen; omega) (by omega)
    rcases hO'.2 with ⟨h0, h00⟩ | ⟨g', cap', cur, hv, hb', hrest⟩
    · have h1 := hO.len
      omega
    · subst hv
      have hW : WrB w' base g' cap' (l ++ k) := by
        refine (OwnY.wr (base := w.heap.size) ?_).mono hbase
        unfold OwnY
        rw [hll, List.map_append]
        exact hO'
      exact ⟨g', cap', w', hr, hW, ⟨hgr.os, hgr.tape, hgr.output, hgr.size, fun k hk _ => hgr.block k hk (fun q => by cases q)⟩, .inr hb'⟩
theorem wpList_append_wr {ops : Array Oper} {rest : List Oper} {o : Oper} {a : Act} {Q : Exit → Act → World → Prop} (w : World) (hgd : o.guard = none) (s x : Operand)
    (ho : o.op = .call { callee := .builtin .append, args := #[s, x], argTypes := #[22, 22] })
    (base g cp n b off m cx : Nat) (l k : List UInt8) (hs : a.eval s = .slice (some ⟨g, 0, none⟩) n cp) (hx : a.eval x = .slice (some ⟨b, off, none⟩) m cx) (hn : n = l.length) (hm : m = k.length) (hO : WrB w base g cp l)
    (hc : BysAt w b off k) (hlen : l.length + k.length ≤ 2 ^ 30) (hbase : base ≤ w.heap.size)
    (h : ∀ g' cp' w', WrB w' base g' cp' (l ++ k) → w.grownBy w' (some g) → (g' = g ∨ w.heap.size ≤ g') → wpList Tryz.prog ops Q rest (a.put o.dst (.slice (some ⟨g', 0, none⟩) (n + m) cp')) w') : wpList Tryz.prog ops Q (o :: rest) a w := by
  subst hn hm
  refine wpList_plain hgd fun K hK => ?_
  obtain ⟨g', cp', w', hr, h1, h2, h3⟩ := run_append_wr w o.type base g cp b off cx l k hO hc hlen hbase
  unfold Oper.wp execOp
  simp only [ho, resolve, invoke, builtin, Sem.run_bind, Sem.run_pure, Result.andThen_ok, List.map_toArray, List.map_cons, List.map_nil, hs, hx, hr]
  exact hK _ _ (h g' cp' w' h1 h2 h3)
/-- The same, at a step of a region that draws. -/
theorem step_append_wr {ops : Array Oper} {oo : Oper} {a : Act} {K : Act → World → Prop} {Q : Exit → Act → World → Prop} {E : Prop} (w : World) (hgd : oo.guard = none) (s x : Operand)
    (ho : oo.op = .call { callee := .builtin .append, args := #[s, x], argTypes := #[22, 22] })
    (base g cp n b off m cx : Nat) (l k : List UInt8) (hs : a.eval s = .slice (some ⟨g, 0, none⟩) n cp) (hx : a.eval x = .slice (some ⟨b, off, none⟩) m cx) (hn : n = l.length) (hm : m = k.length) (hO : WrB w base g cp l)
    (hc : BysAt w b off k) (hlen : l.length + k.length ≤ 2 ^ 30) (hbase : base ≤ w.heap.size)
    (h : ∀ g' cp' w', WrB w' base g' cp' (l ++ k) → w.grownBy w' (some g) → (g' = g ∨ w.heap.size ≤ g') → K (a.put oo.dst (.slice (some ⟨g', 0, none⟩) (n + m) cp')) w') : if Region.wanted oo (yielded ops a.tmps) = true then Oper.wp Tryz.prog oo a w K Q else E := by
  subst hn hm
  obtain ⟨g', cp', w', hr, h1, h2, h3⟩ := run_append_wr w oo.type base g cp b off cx l k hO hc hlen hbase
  rw [if_pos (by simp [Region.wanted, hgd])]
  unfold Oper.wp execOp
  simp only [ho, resolve, invoke, builtin, Sem.run_bind, Sem.run_pure, Result.andThen_ok, List.map_toArray, List.map_cons, List.map_nil, hs, hx, hr]
  exact h g' cp' w' h1 h2 h3
/-- The same, with the row's place forgotten: what lies below the base has not turned. -/
theorem WrB.next {w0 w w' : World} {base g : Nat} (h : Below base w0 w) (hb : base ≤ w.heap.size) (hg : base ≤ g) (hgr : w.grownBy w' (some g)) : Below base w0 w' := h.grown hgr hb (fun j hj => by cases hj; exact hg)
end Go.Proofs.YtgnpcenpcmdlfaaGreatDoor

