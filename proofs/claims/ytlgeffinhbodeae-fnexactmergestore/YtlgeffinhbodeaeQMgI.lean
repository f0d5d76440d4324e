/-
  impl.MergeStore.
-/
import Derived.Test.YtlgeffinhbodeaeQRpI
import Derived.Test.YtlgeffinhbodeaeQMgM
import Derived.Test.YtlgeffinhbodeaeQVStJ
namespace Go.Proofs.Ytlgeffinhbodeae
open Go.ChangeShapes Go.WideShapes Go.ChangeAt Go.RowKit Go.Deep
set_option linter.unusedVariables false
set_option linter.unusedSimpArgs false
set_option maxRecDepth 100000

theorem tms_ty (ts : List Tm) : (ts.map Tm.ty).map Ty.tb = tbs ts := by
  unfold tbs
  rw [List.map_map]
  apply List.map_congr_left
  intro t _
  rfl
/-- Copied as it is, into the result's variable. -/
theorem copy_in {w w3 : World} {tb : List Tb} {e : Ending} {W : World} (R : Nat) (hb : Below w.heap.size w W) (hR : w.heap.size ≤ R) (hRl : R < W.heap.size) (h : CpIPost W tb e w3) :
    ∃ (g cp : Nat) (xs : List Tx), e = .returned (.agg #[.slice (some ⟨g, 0, none⟩) xs.length cp]) ∧ Below W.heap.size W w3 ∧ CpIPost w tb (.returned (.agg #[.slice (some ⟨g, 0, none⟩) xs.length cp])) (w3.setCell ⟨R, 0, none⟩ (.slice (some ⟨g, 0, none⟩) xs.length cp)) := by
  obtain ⟨g, cp, xs, rfl, hS, hA, hE, hb3⟩ := h
  refine ⟨g, cp, xs, rfl, hb3, g, cp, xs, rfl, ?_, hA, hE, (hb.trans (hb3.mono hb.size)).setCell hR _⟩
  have h5 := hS.chg (Chg.of_set w3 R 0 (.slice (some ⟨g, 0, none⟩) xs.length cp) (S := fun k => k = R) rfl) (fun k hk _ q => by omega)
  exact h5.mono hb.size

theorem inRms_cat {w : World} {base : Nat} {v : Value} {l : List Rm} (h : w.ownsRow base 30 1 v l.length (l.map Rm.u)) (hr : ∀ r ∈ l, r.at w) : InRms w v l := by
  rcases h.2 with ⟨q, q2⟩ | ⟨g, cp, cur, q, q2, q3, hc1, hc2, _⟩
  · exact .inl ⟨none, 0, q, List.eq_nil_of_length_eq_zero q2⟩
  · subst q
    refine .inr ⟨g, 0, cp, rfl, fun i r hi => ⟨?_, hr r (List.mem_of_getElem? hi)⟩, (World.ownsRow.lt h g rfl).2, hc1, hc2⟩
    have hl := (List.getElem?_eq_some_iff.1 hi).1
    have := World.ownsRow.cellAt h i (by omega)
    rw [List.getElem?_map, hi] at this
    rw [Nat.zero_add]
    exact this

theorem inRms_set {w : World} {va : Option Addr} {vn vc : Nat} {l : List Rm} {R o : Nat} {x : Value} (h : InRms w (.slice va vn vc) l) (hv : ∀ g, va = some g → g.block ≠ R ∨ l = []) (hl : ∀ r ∈ l, r.b ≠ R) : InRms (w.setCell ⟨R, o, none⟩ x) (.slice va vn vc) l := by
  rcases h with ⟨a, c, hq, rfl⟩ | ⟨b, off, cap, hq, hE, hlt, h1, h2⟩
  · exact .inl ⟨a, c, hq, rfl⟩
  · by_cases hn : l = []
    · subst hn
      exact .inl ⟨_, _, hq, rfl⟩
    · cases hq
      refine .inr ⟨b, off, vc, rfl, fun i r hi => ?_, by simpa using hlt, h1, h2⟩
      have hb : b ≠ R := (hv _ rfl).resolve_right hn
      have hr := hl r (List.mem_of_getElem? hi)
      obtain ⟨k1, k2⟩ := hE i r hi
      refine ⟨by rw [World.cell?_setCell_far _ _ _ _ (by exact fun q => hb q.symm)]; exact k1, ⟨fun j e he => ?_, by simpa using k2.lt, k2.len, k2.cap⟩⟩
      obtain ⟨q0, q1, q2, q3, q4, q5⟩ := k2.ents j e he
      refine ⟨?_, ?_, ?_, ?_, ?_, ?_⟩
      all_goals rw [World.cell?_setCell_far _ _ _ _ (by exact fun q => hr q.symm)]
      · exact q0
      · exact q1
      · exact q2
      · exact q3
      · exact q4
      · exact q5
/-- What MergeStore of impl hands back. -/
def MgIPost (w : World) (tb : List Tb) (row : ByteArray) (e : Ending) (w' : World) : Prop := ∃ out, MrgT tb row out ∧ CpIPost w out e w'

set_option maxHeartbeats 8000000 in
theorem implMerge_store (b off cap : Nat) (ts : List Tm) (row : ByteArray) (w : World) (h : TmsAt w b off ts) (hok : okTs ts) (hB : b < w.heap.size) (hn : ts.length ≤ 1048576) (hcap : ts.length ≤ cap) (hcm : cap ≤ maxLen) (hs : ∀ t ∈ ts, t.l.length ≤ 1048576 ∧ totM t.l ≤ 1048576) (htot : ∀ (i : Nat) (t n : Tm), ts[i]? = some t → ts[i + 1]? = some n → totM (t.l ++ n.l) ≤ 1048576) :
    Calls Try.prog 28 #[.agg #[.slice (some ⟨b, off, none⟩) ts.length cap], .string row] w fun e w' => MgIPost w (tbs ts) row e w' := by
  obtain ⟨Wa, hWa⟩ : ∃ Wa : World, Wa = (w.alloc (Obj.cells #[.slice (some ⟨b, off, none⟩) ts.length cap] 66)).alloc (Obj.cells #[.slice none 0 0] 66) := ⟨_, rfl⟩
  have hba : Below w.heap.size w Wa := by rw [hWa]; exact ((Below.refl _ _).alloc (Nat.le_refl _) _).alloc (by simp) _
  have hza : Wa.heap.size = w.heap.size + 1 + 1 := by rw [hWa]; simp
  have HWa : Hid (∀ wx, Below Wa.heap.size Wa wx → wx.cell? ⟨w.heap.size, 0, none⟩ = some (.slice (some ⟨b, off, none⟩) ts.length cap) ∧ wx.cell? ⟨w.heap.size + 1, 0, none⟩ = some (.slice none 0 0) ∧ wx.frozen? ⟨w.heap.size + 1, 0, none⟩ = false ∧ TmsAt wx b off ts ∧ b < wx.heap.size) := by
    intro wx hx
    have sx := hx.size
    refine ⟨?_, ?_, ?_, (h.below hba hB).below hx (by omega), by omega⟩
    · rw [hx.cell (p := ⟨w.heap.size, 0, none⟩) (by show w.heap.size < Wa.heap.size; omega), hWa]; simp [go_sem]
    · rw [hx.cell (p := ⟨w.heap.size + 1, 0, none⟩) (by show w.heap.size + 1 < Wa.heap.size; omega), hWa]; simp [go_sem]
    · rw [hx.frozen (p := ⟨w.heap.size + 1, 0, none⟩) (by show w.heap.size + 1 < Wa.heap.size; omega), hWa]; simp [go_sem]
  have HS : Hid (okTs ts ∧ ∀ t ∈ ts, t.l.length ≤ 1048576 ∧ totM t.l ≤ 1048576) := ⟨hok, hs⟩
  have HSy : Hid (∀ t ∈ ts.map Tm.ty, t.l.length ≤ 1048576 ∧ totM t.l ≤ 1048576) := by
    intro t ht
    obtain ⟨u, hu, rfl⟩ := List.mem_map.1 ht
    exact hs u hu
  -- a copy of the store as it came
  have HCp : Hid (∀ W, Below Wa.heap.size Wa W → Calls Try.prog 79 #[.agg #[.slice (some ⟨b, off, none⟩) ts.length cap]] W fun e w' => ∃ (g cp : Nat) (xs : List Tx), e = .returned (.agg #[.slice (some ⟨g, 0, none⟩) xs.length cp]) ∧ w'.cell? ⟨w.heap.size + 1, 0, none⟩ = some (.slice none 0 0) ∧ w'.frozen? ⟨w.heap.size + 1, 0, none⟩ = false ∧ Hid (CpIPost w (tbs ts) (.returned (.agg #[.slice (some ⟨g, 0, none⟩) xs.length cp])) (w'.setCell ⟨w.heap.size + 1, 0, none⟩ (.slice (some ⟨g, 0, none⟩) xs.length cp)))) := by
    intro W hW
    obtain ⟨_, _, _, hT, hb'⟩ := HWa.out W hW
    have := implCopied_core b off cap (ts.map Tm.ty) W hT.tys hb' (by rw [List.length_map]; exact hn) HSy.out
    rw [List.length_map, tms_ty] at this
    refine this.mono ?_
    intro e w3 hp
    have sW := hW.size
    obtain ⟨g, cp, xs, rfl, hb3, hc⟩ := copy_in (w := w) (w.heap.size + 1) (hba.trans (hW.mono (by omega))) (by omega) (by omega) hp
    obtain ⟨_, q1, q2, _⟩ := HWa.out w3 (hW.trans (hb3.mono sW))
    exact ⟨g, cp, xs, rfl, q1, q2, hc⟩
  unfold maxLen at hcm
  clear h hok hs
  obtain ⟨c0, _, _, hT0, hB0⟩ := HWa.out Wa (Below.refl _ _)
  have HT0 : Hid (TmsAt Wa b off ts) := hT0
  clear hT0
  go_enter Try.func28, Try.ntmps28
  go_upto_region 1 with fail
  rw [← hWa]
  clear hWa
  go_wp2_with fail
  refine (implValidStore_core b off cap ts _ HT0.out HS.out.1 hB0 hn).mono ?_
  rintro e w1 ⟨r, rfl, hr, hb1⟩
  have HR : Hid (r = true ↔ GoodS (tbs ts)) := hr
  have s1 := hb1.size
  clear hr c0
  obtain ⟨c0, _, _, hT1, hB1⟩ := HWa.out w1 hb1
  have HT1 : Hid (TmsAt w1 b off ts) := hT1
  clear hT1
  cases r
  · have H : Hid (MrgT (tbs ts) row (tbs ts)) := mrgT_bad (fun q => Bool.noConfusion (HR.out.2 q))
    go_wp2_with fail
    refine (HCp.out _ hb1).mono ?_
    rintro e w3 ⟨g, cp, xs, rfl, q1, q2, hc⟩
    go_wp2_with fail
    exact bodyPost_ret (v := .agg #[.slice (some ⟨g, 0, none⟩) xs.length cp]) (by simp [results, Try.results28, go_sem, q1]) rfl ⟨_, H.out, hc.out⟩
  have HG : Hid (GoodS (tbs ts)) := HR.out.1 rfl
  obtain ⟨i, hi⟩ := hold_ex HG.out row
  have HI : Hid (HoldAt (tbs ts) row i) := hi
  have hil : i < ts.length := by have := hi.1; rw [tbs_len] at this; exact this
  have hn100 : ts.length ≤ 100 := by have := HG.out.le; rw [tbs_len] at this; exact this
  clear hi
  go_wp2_with fail
  refine (implHolder_core b off cap ts row i _ HT1.out hB1 hn HG.out HI.out).mono ?_
  rintro e w2 ⟨rfl, hb2'⟩
  have hb2 : Below Wa.heap.size Wa w2 := hb1.trans (hb2'.mono s1)
  have s2 := hb2.size
  clear hb2' c0
  obtain ⟨c0, _, _, hT2, hB2⟩ := HWa.out w2 hb2
  have HT2 : Hid (TmsAt w2 b off ts) := hT2
  clear hT2
  by_cases hlast : i + 1 = ts.length
  · have H : Hid (MrgT (tbs ts) row (tbs ts)) := mrgT_last HI.out (by rw [tbs_len]; exact hlast)
    have zl : (i : Int) + 1 = (ts.length : Int) := by omega
    go_wp2_with fail
    refine (HCp.out _ hb2).mono ?_
    rintro e w3 ⟨g, cp, xs, rfl, q1, q2, hc⟩
    go_wp2_with fail
    exact bodyPost_ret (v := .agg #[.slice (some ⟨g, 0, none⟩) xs.length cp]) (by simp [results, Try.results28, go_sem, q1]) rfl ⟨_, H.out, hc.out⟩
  obtain ⟨t, ht⟩ : ∃ t, ts[i]? = some t := ⟨_, List.getElem?_eq_getElem hil⟩
  obtain ⟨n, hnx⟩ : ∃ n, ts[i + 1]? = some n := ⟨_, List.getElem?_eq_getElem (by omega)⟩
  have HTN : Hid (ts[i]? = some t ∧ ts[i + 1]? = some n) := ⟨ht, hnx⟩
  have HK : Hid (∀ w', Below Wa.heap.size Wa w' → w'.cell? ⟨w.heap.size, 0, none⟩ = some (.slice (some ⟨b, off, none⟩) ts.length cap) ∧ w'.cell? ⟨b, off + i * 2, none⟩ = some (.string t.lo) ∧ w'.cell? ⟨b, off + i * 2 + 1, none⟩ = some (.slice (some ⟨t.b, t.off, none⟩) t.l.length t.cap) ∧ w'.cell? ⟨b, off + (i + 1) * 2 + 1, none⟩ = some (.slice (some ⟨n.b, n.off, none⟩) n.l.length n.cap) ∧ t.at w' ∧ n.at w') := by
    intro w' hw'
    obtain ⟨k0, _, _, kT, _⟩ := HWa.out w' hw'
    obtain ⟨k1, k2, k3⟩ := kT i t HTN.out.1
    obtain ⟨k4, k5, k6⟩ := kT (i + 1) n HTN.out.2
    exact ⟨k0, k1, k2, k5, k3, k6⟩
  have htl : t.l.length ≤ 1048576 := (HS.out.2 t (List.mem_of_getElem? ht)).1
  have hnl : n.l.length ≤ 1048576 := (HS.out.2 n (List.mem_of_getElem? hnx)).1
  have HTot : Hid (totM (t.l ++ n.l) ≤ 1048576) := htot i t n HTN.out.1 HTN.out.2
  clear ht hnx
  have zl : ¬ (i : Int) + 1 = (ts.length : Int) := by omega
  have z1 : (i : Int) < (ts.length : Int) := by omega
  have z2 : (i : Int) + 1 < (ts.length : Int) := by omega
  have z3 : (0 : Int) ≤ (i : Int) + 1 := by omega
  have hwr : IntKind.i64.wrap ((i : Int) + 1) = (i : Int) + 1 := by rw [IntKind.wrap_i64]; omega
  have htn : ((i : Int) + 1).toNat = i + 1 := by omega
  have hS : (fun w' : World => w'.cell? ⟨w.heap.size, 0, none⟩ = some (.slice (some ⟨b, off, none⟩) ts.length cap) ∧ w'.cell? ⟨b, off + i * 2, none⟩ = some (.string t.lo) ∧ w'.cell? ⟨b, off + i * 2 + 1, none⟩ = some (.slice (some ⟨t.b, t.off, none⟩) t.l.length t.cap) ∧ w'.cell? ⟨b, off + (i + 1) * 2 + 1, none⟩ = some (.slice (some ⟨n.b, n.off, none⟩) n.l.length n.cap)) w2.drew := by
    obtain ⟨k0, k1, k2, k3, _⟩ := HK.out w2.drew hb2.drew
    exact ⟨k0, k1, k2, k3⟩
  go_upto_region 6 with fail
  refine wp_region_T 23 (fun w' : World => w'.cell? ⟨w.heap.size, 0, none⟩ = some (.slice (some ⟨b, off, none⟩) ts.length cap) ∧ w'.cell? ⟨b, off + i * 2, none⟩ = some (.string t.lo) ∧ w'.cell? ⟨b, off + i * 2 + 1, none⟩ = some (.slice (some ⟨t.b, t.off, none⟩) t.l.length t.cap) ∧ w'.cell? ⟨b, off + (i + 1) * 2 + 1, none⟩ = some (.slice (some ⟨n.b, n.off, none⟩) n.l.length n.cap)) (by kernel_rfl) ?_
  refine anyT_take (i := 0) (v := ?vq0) rfl (by kernel_rfl) (by kernel_rfl) (by kernel_rfl) (by kernel_rfl) (by decide) (fun _ _ _ h => h) (Or.inl ⟨by rfl, ?yq0⟩) hS ?_
  case yq0 => (intro wz hSw; (try dsimp only at hSw); go_simp; (try with_reducible rfl))
  try simp only [Act.put, List.setIfInBounds_toArray, List.set_cons_zero, List.set_cons_succ]
  refine anyT_take (i := 1) (v := ?vq1) rfl (by kernel_rfl) (by kernel_rfl) (by kernel_rfl) (by kernel_rfl) (by decide) (fun _ _ _ h => h) (Or.inl ⟨by rfl, ?yq1⟩) hS ?_
  case yq1 => (intro wz hSw; (try dsimp only at hSw); go_simp; (try with_reducible rfl))
  try simp only [Act.put, List.setIfInBounds_toArray, List.set_cons_zero, List.set_cons_succ]
  refine anyT_take (i := 2) (v := ?vq2) rfl (by kernel_rfl) (by kernel_rfl) (by kernel_rfl) (by kernel_rfl) (by decide) (fun _ _ _ h => h) (Or.inl ⟨by rfl, ?yq2⟩) hS ?_
  case yq2 => (intro wz hSw; (try dsimp only at hSw); go_simp; (try with_reducible rfl))
  try simp only [Act.put, List.setIfInBounds_toArray, List.set_cons_zero, List.set_cons_succ]
  refine anyT_take (i := 3) (v := ?vq3) rfl (by kernel_rfl) (by kernel_rfl) (by kernel_rfl) (by kernel_rfl) (by decide) (fun _ _ _ h => h) (Or.inl ⟨by rfl, ?yq3⟩) hS ?_
  case yq3 => (intro wz hSw; (try dsimp only at hSw); go_simp; (try with_reducible rfl))
  try simp only [Act.put, List.setIfInBounds_toArray, List.set_cons_zero, List.set_cons_succ]
  refine anyT_take (i := 4) (v := ?vq4) rfl (by kernel_rfl) (by kernel_rfl) (by kernel_rfl) (by kernel_rfl) (by decide) (fun _ _ _ h => h) (Or.inl ⟨by rfl, ?yq4⟩) hS ?_
  case yq4 => (intro wz hSw; (try dsimp only at hSw); go_simp; (try with_reducible rfl))
  try simp only [Act.put, List.setIfInBounds_toArray, List.set_cons_zero, List.set_cons_succ]
  refine anyT_take (i := 5) (v := ?vq5) rfl (by kernel_rfl) (by kernel_rfl) (by kernel_rfl) (by kernel_rfl) (by decide) (fun _ _ _ h => h) (Or.inl ⟨by rfl, ?yq5⟩) hS ?_
  case yq5 => (intro wz hSw; (try dsimp only at hSw); go_simp; (try with_reducible rfl))
  try simp only [Act.put, List.setIfInBounds_toArray, List.set_cons_zero, List.set_cons_succ]
  refine anyT_take (i := 6) (v := ?vq6) rfl (by kernel_rfl) (by kernel_rfl) (by kernel_rfl) (by kernel_rfl) (by decide) (fun _ _ _ h => h) (Or.inl ⟨by rfl, ?yq6⟩) hS ?_
  case yq6 => (intro wz hSw; (try dsimp only at hSw); go_simp; (try with_reducible rfl))
  try simp only [Act.put, List.setIfInBounds_toArray, List.set_cons_zero, List.set_cons_succ]
  refine anyT_take (i := 7) (v := ?vq7) rfl (by kernel_rfl) (by kernel_rfl) (by kernel_rfl) (by kernel_rfl) (by decide) (fun _ _ _ h => h) (Or.inl ⟨by rfl, ?yq7⟩) hS ?_
  case yq7 => (intro wz hSw; (try dsimp only at hSw); go_simp; (try with_reducible rfl))
  try simp only [Act.put, List.setIfInBounds_toArray, List.set_cons_zero, List.set_cons_succ]
  refine anyT_take (i := 8) (v := ?vq8) rfl (by kernel_rfl) (by kernel_rfl) (by kernel_rfl) (by kernel_rfl) (by decide) (fun _ _ _ h => h) (Or.inl ⟨by rfl, ?yq8⟩) hS ?_
  case yq8 => (intro wz hSw; (try dsimp only at hSw); go_simp; (try with_reducible rfl))
  try simp only [Act.put, List.setIfInBounds_toArray, List.set_cons_zero, List.set_cons_succ]
  refine anyT_take (i := 9) (v := ?vq9) rfl (by kernel_rfl) (by kernel_rfl) (by kernel_rfl) (by kernel_rfl) (by decide) (fun _ _ _ h => h) (Or.inl ⟨by rfl, ?yq9⟩) hS ?_
  case yq9 => (intro wz hSw; (try dsimp only at hSw); go_simp; (try with_reducible rfl))
  try simp only [Act.put, List.setIfInBounds_toArray, List.set_cons_zero, List.set_cons_succ]
  refine anyT_take (i := 10) (v := ?vq10) rfl (by kernel_rfl) (by kernel_rfl) (by kernel_rfl) (by kernel_rfl) (by decide) (fun _ _ _ h => h) (Or.inl ⟨by rfl, ?yq10⟩) hS ?_
  case yq10 => (intro wz hSw; (try dsimp only at hSw); go_simp; (try with_reducible rfl))
  try simp only [Act.put, List.setIfInBounds_toArray, List.set_cons_zero, List.set_cons_succ]
  refine anyT_take (i := 11) (v := ?vq11) rfl (by kernel_rfl) (by kernel_rfl) (by kernel_rfl) (by kernel_rfl) (by decide) (fun _ _ _ h => h) (Or.inl ⟨by rfl, ?yq11⟩) hS ?_
  case yq11 => (intro wz hSw; (try dsimp only at hSw); go_simp; (try with_reducible rfl))
  try simp only [Act.put, List.setIfInBounds_toArray, List.set_cons_zero, List.set_cons_succ]
  refine anyT_take (i := 12) (v := ?vq12) rfl (by kernel_rfl) (by kernel_rfl) (by kernel_rfl) (by kernel_rfl) (by decide) (fun _ _ _ h => h) (Or.inl ⟨by rfl, ?yq12⟩) hS ?_
  case yq12 => (intro wz hSw; (try dsimp only at hSw); go_simp; (try with_reducible rfl))
  try simp only [Act.put, List.setIfInBounds_toArray, List.set_cons_zero, List.set_cons_succ]
  refine anyT_take (i := 13) (v := ?vq13) rfl (by kernel_rfl) (by kernel_rfl) (by kernel_rfl) (by kernel_rfl) (by decide) (fun _ _ _ h => h) (Or.inl ⟨by rfl, ?yq13⟩) hS ?_
  case yq13 => (intro wz hSw; (try dsimp only at hSw); go_simp; (try with_reducible rfl))
  try simp only [Act.put, List.setIfInBounds_toArray, List.set_cons_zero, List.set_cons_succ]
  refine anyT_take (i := 14) (v := ?vq14) rfl (by kernel_rfl) (by kernel_rfl) (by kernel_rfl) (by kernel_rfl) (by decide) (fun _ _ _ h => h) (Or.inl ⟨by rfl, ?yq14⟩) hS ?_
  case yq14 => (intro wz hSw; (try dsimp only at hSw); go_simp; (try with_reducible rfl))
  try simp only [Act.put, List.setIfInBounds_toArray, List.set_cons_zero, List.set_cons_succ]
  refine anyT_take (i := 15) (v := ?vq15) rfl (by kernel_rfl) (by kernel_rfl) (by kernel_rfl) (by kernel_rfl) (by decide) (fun _ _ _ h => h) (Or.inl ⟨by rfl, ?yq15⟩) hS ?_
  case yq15 => (intro wz hSw; (try dsimp only at hSw); go_simp; (try with_reducible rfl))
  try simp only [Act.put, List.setIfInBounds_toArray, List.set_cons_zero, List.set_cons_succ]
  refine anyT_take (i := 16) (v := ?vq16) rfl (by kernel_rfl) (by kernel_rfl) (by kernel_rfl) (by kernel_rfl) (by decide) (fun _ _ _ h => h) (Or.inl ⟨by rfl, ?yq16⟩) hS ?_
  case yq16 => (intro wz hSw; (try dsimp only at hSw); go_simp; (try with_reducible rfl))
  try simp only [Act.put, List.setIfInBounds_toArray, List.set_cons_zero, List.set_cons_succ]
  refine anyT_take (i := 17) (v := ?vq17) rfl (by kernel_rfl) (by kernel_rfl) (by kernel_rfl) (by kernel_rfl) (by decide) (fun _ _ _ h => h) (Or.inl ⟨by rfl, ?yq17⟩) hS ?_
  case yq17 => (intro wz hSw; (try dsimp only at hSw); go_simp; (try with_reducible rfl))
  try simp only [Act.put, List.setIfInBounds_toArray, List.set_cons_zero, List.set_cons_succ]
  refine anyT_take (i := 18) (v := ?vq18) rfl (by kernel_rfl) (by kernel_rfl) (by kernel_rfl) (by kernel_rfl) (by decide) (fun _ _ _ h => h) (Or.inl ⟨by rfl, ?yq18⟩) hS ?_
  case yq18 => (intro wz hSw; (try dsimp only at hSw); go_simp; (try with_reducible rfl))
  try simp only [Act.put, List.setIfInBounds_toArray, List.set_cons_zero, List.set_cons_succ]
  have hptT : ∀ (w' : World) (x : Tm), x.at w' → Pt.at w' ⟨x.b, x.off, x.cap, x.l.map Rm.u⟩ := fun w' x hx => by
    refine ⟨fun j u hu => ?_, fun u hu => ?_, hx.lt⟩
    · rw [List.getElem?_map] at hu
      cases hp : x.l[j]? with
      | none => rw [hp] at hu; cases hu
      | some r => rw [hp] at hu; simp at hu; subst hu; exact (hx.rms j r hp).1
    · obtain ⟨r, _, rfl⟩ := List.mem_map.1 hu
      rfl
  have HPt : Hid (∀ (w' : World) (x : Tm), x.at w' → Pt.at w' ⟨x.b, x.off, x.cap, x.l.map Rm.u⟩) := hptT
  clear hptT
  have hall : allU [⟨t.b, t.off, t.cap, t.l.map Rm.u⟩, ⟨n.b, n.off, n.cap, n.l.map Rm.u⟩] = (t.l ++ n.l).map Rm.u := by simp [allU]
  have HPts : Hid (∀ (w' : World) (sb : Nat), Below Wa.heap.size Wa w' → w'.cell? ⟨sb, 0, none⟩ = some (.slice (some ⟨t.b, t.off, none⟩) t.l.length t.cap) → w'.cell? ⟨sb, 1, none⟩ = some (.slice (some ⟨n.b, n.off, none⟩) n.l.length n.cap) → PtsAt w' sb [⟨t.b, t.off, t.cap, t.l.map Rm.u⟩, ⟨n.b, n.off, n.cap, n.l.map Rm.u⟩]) := by
    intro w' sb hw' k0 k1 j p hp
    obtain ⟨_, _, _, _, ft, fn⟩ := HK.out w' hw'
    match j, hp with
    | 0, hp =>
      obtain rfl := Option.some.inj hp
      exact ⟨by rw [k0, List.length_map], HPt.out w' t ft⟩
    | 1, hp =>
      obtain rfl := Option.some.inj hp
      exact ⟨by rw [k1, List.length_map], HPt.out w' n fn⟩
    | m + 2, hp => simp at hp
  refine anyT_two (i := 19) (j := 22) (by kernel_rfl) rfl rfl (fun K hK => ?_) (fun K hK => ?_)
  · go_simp
    obtain ⟨W3, hW3⟩ : ∃ W3 : World, W3 = (w2.alloc (Obj.cells #[.slice (some ⟨t.b, t.off, none⟩) t.l.length t.cap, .slice (some ⟨n.b, n.off, none⟩) n.l.length n.cap] 23)).drew := ⟨_, rfl⟩
    have hb3' : Below w2.heap.size w2 W3 := by rw [hW3]; exact ((Below.refl _ _).alloc (Nat.le_refl _) _).drew
    have hb3 : Below Wa.heap.size Wa W3 := hb2.trans (hb3'.mono s2)
    have hz3 : W3.heap.size = w2.heap.size + 1 := by rw [hW3]; simp
    have HPs : Hid (PtsAt W3 w2.heap.size [⟨t.b, t.off, t.cap, t.l.map Rm.u⟩, ⟨n.b, n.off, n.cap, n.l.map Rm.u⟩]) := HPts.out W3 _ hb3 (by rw [hW3]; simp) (by rw [hW3]; simp)
    obtain ⟨e0, e1, e2, e3, _, _⟩ := HK.out W3 hb3
    rw [← hW3]
    refine hK.out _ _ (.inr ⟨e0, e1, e2, e3⟩) ?_
    clear hK hW3
    try simp only [Act.put, List.setIfInBounds_toArray, List.set_cons_zero, List.set_cons_succ]
    refine anyT_two (i := 20) (j := 22) (by kernel_rfl) rfl rfl (fun K hK => ?_) (fun K hK => ?_)
    · skip
      go_simp
      go_at_call 81
      refine (concatR_core w2.heap.size _ _ HPs.out (by omega) (by rw [hall, List.length_map, List.length_append]; omega) (by simp)).mono ?_
      rintro r w4 ⟨v, rfl, hOw4, hbw4'⟩
      rw [hall, List.length_map] at hOw4
      obtain ⟨va, vn, vc, rfl⟩ : ∃ va vn vc, v = .slice va vn vc := by
        rcases hOw4.2 with ⟨q, _⟩ | ⟨g, cp, cur, q, _⟩ <;> exact ⟨_, _, _, q⟩
      have hbw4 : Below Wa.heap.size Wa w4 := hb3.trans (hbw4'.mono hb3.size)
      have sw4 := hbw4'.size
      obtain ⟨f0, f1, f2, f3, ft, fn⟩ := HK.out w4 hbw4
      have HIn : Hid (InRms w4 (.slice va vn vc) (t.l ++ n.l) ∧ (∀ g, va = some g → W3.heap.size ≤ g.block ∨ t.l ++ n.l = [])) := by
        refine ⟨inRms_cat hOw4 (fun r hr => ?_), fun g hg => ?_⟩
        · rcases List.mem_append.1 hr with hr | hr
          · obtain ⟨j, hj⟩ := List.getElem?_of_mem hr
            exact (ft.rms j r hj).2
          · obtain ⟨j, hj⟩ := List.getElem?_of_mem hr
            exact (fn.rms j r hj).2
        · rcases hOw4.2 with ⟨q, q2⟩ | ⟨g', cp, cur, q, q2, _⟩
          · exact .inr (List.eq_nil_of_length_eq_zero q2)
          · cases q
            cases hg
            exact .inl q2
      have HVn : Hid (vn = (t.l ++ n.l).length) := by
        show vn = (t.l ++ n.l).length
        rcases hOw4.2 with ⟨q, q2⟩ | ⟨g', cp, cur, q, _⟩
        · cases q; omega
        · cases q; rfl
      refine hK.out _ _ (.inr ⟨f0, f1, f2, f3⟩) ?_
      clear hK
      try simp only [Act.put, List.setIfInBounds_toArray, List.set_cons_zero, List.set_cons_succ]
      refine anyT_take (i := 21) (v := ?vr21x1) rfl (by kernel_rfl) (by kernel_rfl) (by kernel_rfl) (by kernel_rfl) (by decide) (fun _ _ _ h => h) (Or.inl ⟨by rfl, ?yr21x1⟩) (show _ ∧ _ from ⟨f0, f1, f2, f3⟩) ?_
      case yr21x1 => (intro wz hSw; (try dsimp only at hSw); go_simp; (try with_reducible rfl))
      try simp only [Act.put, List.setIfInBounds_toArray, List.set_cons_zero, List.set_cons_succ]
      refine anyT_one (i := 22) (by kernel_rfl) rfl (fun K hK => ?_)
      go_simp
      obtain ⟨g0, g1, g2, g3, _, _⟩ := HK.out (w4.alloc (Obj.cells #[.string ⟨#[]⟩, .slice none 0 0] 133)) (hbw4.alloc hbw4.size _)
      refine hK.out _ _ (.inr ⟨g0, g1, g2, g3⟩) ?_
      clear hK
      try simp only [Act.put, List.setIfInBounds_toArray, List.set_cons_zero, List.set_cons_succ]
      refine anyT_one (i := 23) (by kernel_rfl) rfl (fun K hK => ?_)
      go_simp
      refine hK.out _ _ (.inl rfl) ?_
      clear hK
      try simp only [Act.put, List.setIfInBounds_toArray, List.set_cons_zero, List.set_cons_succ]
      refine anyT_done (by kernel_rfl) ?_
      obtain ⟨R6, hR6⟩ : ∃ R6, R6 = w4.heap.size := ⟨_, rfl⟩
      obtain ⟨Wf, hWf⟩ : ∃ Wf : World, Wf = w4.alloc (Obj.cells #[.string t.lo, .slice va vn vc] 133) := ⟨_, rfl⟩
      have rc0 : Wf.cell? ⟨R6, 0, none⟩ = some (.string t.lo) := by rw [hWf, hR6]; simp
      have rc1 : Wf.cell? ⟨R6, 1, none⟩ = some (.slice va vn vc) := by rw [hWf, hR6]; simp
      have HFin : Hid (Below Wa.heap.size Wa Wf ∧ InRms Wf (.slice va vn vc) (t.l ++ n.l)) := by
        have h1 : Below w4.heap.size w4 Wf := by rw [hWf]; exact (Below.refl _ _).alloc (Nat.le_refl _) _
        exact ⟨hbw4.trans (h1.mono hbw4.size), HIn.out.1.below h1⟩
      rw [← hR6, ← hWf]
      clear hR6 hWf f0 f1 f2 f3 g0 g1 g2 g3 e0 e1 e2 e3
      have hvb : vn ≤ 2097152 := by have := HVn.out; rw [List.length_append] at this; omega
      have sf := HFin.out.1.size
      by_cases hfull : 50 < vn
      · have H : Hid (MrgT (tbs ts) row (tbs ts)) := mrgT_full HI.out (a := t.tb) (b := n.tb) (by rw [tbs_get, HTN.out.1]; rfl) (by rw [tbs_get, HTN.out.2]; rfl) (by have := HVn.out; simp [Tm.tb] at this ⊢; omega)
        have zf : (50 : Int) < (vn : Int) := by omega
        obtain ⟨k0, _, _, _⟩ := HWa.out Wf HFin.out.1
        go_wp2_with fail
        refine (HCp.out _ HFin.out.1).mono ?_
        rintro e w7 ⟨g, cp, xs, rfl, q1, q2, hc⟩
        go_wp2_with fail
        exact bodyPost_ret (v := .agg #[.slice (some ⟨g, 0, none⟩) xs.length cp]) (by simp [results, Try.results28, go_sem, q1]) rfl ⟨_, H.out, hc.out⟩
      · have zf : ¬ (50 : Int) < (vn : Int) := by omega
        obtain ⟨k0, _, _, kT, kB⟩ := HWa.out Wf HFin.out.1
        obtain ⟨W8, hW8⟩ : ∃ W8 : World, W8 = Wf.alloc (Obj.cells #[.string t.lo, .slice va vn vc] 133) := ⟨_, rfl⟩
        have hb8' : Below Wf.heap.size Wf W8 := by rw [hW8]; exact (Below.refl _ _).alloc (Nat.le_refl _) _
        have hb8 : Below Wa.heap.size Wa W8 := HFin.out.1.trans (hb8'.mono sf)
        have hz8 : W8.heap.size = Wf.heap.size + 1 := by rw [hW8]; simp
        have HT8 : Hid (TmsAt W8 b off ts ∧ TysAt W8 Wf.heap.size 0 [⟨t.lo, .slice va vn vc, t.l ++ n.l⟩]) := by
          refine ⟨kT.below hb8' kB, fun j u hu => ?_⟩
          have hj : j = 0 := by have := (List.getElem?_eq_some_iff.1 hu).1; simp at this; omega
          subst hj
          obtain rfl := Option.some.inj hu
          exact ⟨by rw [hW8]; simp, by rw [hW8]; simp, HFin.out.2.below hb8'⟩
        clear kT
        have HRp : Hid (Calls Try.prog 82 #[.agg #[.slice (some ⟨b, off, none⟩) ts.length cap], .int .i64 i, .int .i64 ((i : Int) + 2), .slice (some ⟨Wf.heap.size, 0, none⟩) 1 1] W8 fun e w' => ∃ (g cp : Nat) (xs : List Tx), e = .returned (.agg #[.slice (some ⟨g, 0, none⟩) xs.length cp]) ∧ w'.cell? ⟨w.heap.size + 1, 0, none⟩ = some (.slice none 0 0) ∧ w'.frozen? ⟨w.heap.size + 1, 0, none⟩ = false ∧ Hid (MgIPost w (tbs ts) row (.returned (.agg #[.slice (some ⟨g, 0, none⟩) xs.length cp])) (w'.setCell ⟨w.heap.size + 1, 0, none⟩ (.slice (some ⟨g, 0, none⟩) xs.length cp)))) := by
          have hln : (ts.map Tm.ty).length = ts.length := List.length_map ..
          have h9 := implReplaced_core b off cap (ts.map Tm.ty) [⟨t.lo, .slice va vn vc, t.l ++ n.l⟩] i (i + 2) Wf.heap.size W8 HT8.out.1.tys (by omega) HT8.out.2 (by omega) (by omega) (by simp) (by omega) (by unfold maxLen; omega) (by omega) (by rw [hln]; omega) (by simp) (fun x hx => by
            rcases List.mem_append.1 hx with hx | hx
            · exact HSy.out x hx
            · simp at hx
              subst hx
              have h3 := HS.out.2 t (List.mem_of_getElem? HTN.out.1)
              have h4 := HS.out.2 n (List.mem_of_getElem? HTN.out.2)
              refine ⟨?_, ?_⟩
              · show (t.l ++ n.l).length ≤ 1048576
                have := HVn.out
                omega
              · show totM (t.l ++ n.l) ≤ 1048576
                exact HTot.out)
          rw [hln] at h9
          have h10 : ((i + 2 : Nat) : Int) = (i : Int) + 2 := by omega
          rw [h10] at h9
          refine h9.mono ?_
          intro e w9 hp
          obtain ⟨g, cp, xs, rfl, hb9, hc⟩ := copy_in (w := w) (w.heap.size + 1) (hba.trans (hb8.mono (by omega))) (by omega) (by omega) hp
          obtain ⟨_, q1, q2, _⟩ := HWa.out w9 (hb8.trans (hb9.mono hb8.size))
          refine ⟨g, cp, xs, rfl, q1, q2, _, ?_, hc⟩
          have h11 := mrgT_done HG.out HI.out (a := t.tb) (b := n.tb) (by rw [tbs_get, HTN.out.1]; rfl) (by rw [tbs_get, HTN.out.2]; rfl) (by have := HVn.out; simp [Tm.tb] at this ⊢; omega)
          have h12 : ((ts.map Tm.ty).take i ++ [Ty.mk t.lo (.slice va vn vc) (t.l ++ n.l)] ++ (ts.map Tm.ty).drop (i + 2)).map Ty.tb = (tbs ts).take i ++ [⟨t.tb.lo, t.tb.rs ++ n.tb.rs⟩] ++ (tbs ts).drop (i + 2) := by
            rw [List.map_append, List.map_append, List.map_take, List.map_drop, tms_ty]
            simp [Ty.tb, Tm.tb]
          rw [h12]
          exact h11
        have zi2 : (i : Int) + 2 ≤ 1048580 := by omega
        go_wp2_with fail
        rw [← hW8]
        clear hW8
        refine HRp.out.mono ?_
        rintro e w9 ⟨g, cp, xs, rfl, q1, q2, hc⟩
        go_wp2_with fail
        exact bodyPost_ret (v := .agg #[.slice (some ⟨g, 0, none⟩) xs.length cp]) (by simp [results, Try.results28, go_sem, q1]) rfl hc.out
    · go_simp
      obtain ⟨W4, hW4⟩ : ∃ W4 : World, W4 = W3.alloc (Obj.cells #[.string ⟨#[]⟩, .slice none 0 0] 133) := ⟨_, rfl⟩
      have hb4' : Below W3.heap.size W3 W4 := by rw [hW4]; exact (Below.refl _ _).alloc (Nat.le_refl _) _
      have hb4 : Below Wa.heap.size Wa W4 := hb3.trans (hb4'.mono hb3.size)
      have hz4 : W4.heap.size = w2.heap.size + 1 + 1 := by rw [hW4]; simp [hz3]
      have HPs : Hid (PtsAt W4 w2.heap.size [⟨t.b, t.off, t.cap, t.l.map Rm.u⟩, ⟨n.b, n.off, n.cap, n.l.map Rm.u⟩]) := HPs.out.below hb4' (by omega)
      have HZ : Hid (W4.cell? ⟨w2.heap.size + 1, 0, none⟩ = some (.string ⟨#[]⟩) ∧ W4.cell? ⟨w2.heap.size + 1, 1, none⟩ = some (.slice none 0 0) ∧ W4.frozen? ⟨w2.heap.size + 1, 0, none⟩ = false ∧ W4.frozen? ⟨w2.heap.size + 1, 1, none⟩ = false) := by
        rw [hW4, ← hz3]
        refine ⟨?_, ?_, ?_, ?_⟩ <;> simp
      obtain ⟨g0, g1, g2, g3, _, _⟩ := HK.out W4 hb4
      rw [← hW4]
      refine hK.out _ _ (.inr ⟨g0, g1, g2, g3⟩) ?_
      clear hK hW4 e0 e1 e2 e3
      try simp only [Act.put, List.setIfInBounds_toArray, List.set_cons_zero, List.set_cons_succ]
      refine anyT_one (i := 20) (by kernel_rfl) rfl (fun K hK => ?_)
      go_simp
      go_at_call 81
      refine (concatR_core w2.heap.size _ _ HPs.out (by omega) (by rw [hall, List.length_map, List.length_append]; omega) (by simp)).mono ?_
      rintro r w5 ⟨v, rfl, hOw5, hbw5'⟩
      rw [hall, List.length_map] at hOw5
      obtain ⟨va, vn, vc, rfl⟩ : ∃ va vn vc, v = .slice va vn vc := by
        rcases hOw5.2 with ⟨q, _⟩ | ⟨g, cp, cur, q, _⟩ <;> exact ⟨_, _, _, q⟩
      have hbw5 : Below Wa.heap.size Wa w5 := hb4.trans (hbw5'.mono hb4.size)
      have sw5 := hbw5'.size
      obtain ⟨f0, f1, f2, f3, ft, fn⟩ := HK.out w5 hbw5
      have HIn : Hid (InRms w5 (.slice va vn vc) (t.l ++ n.l) ∧ (∀ g, va = some g → W4.heap.size ≤ g.block ∨ t.l ++ n.l = [])) := by
        refine ⟨inRms_cat hOw5 (fun r hr => ?_), fun g hg => ?_⟩
        · rcases List.mem_append.1 hr with hr | hr
          · obtain ⟨j, hj⟩ := List.getElem?_of_mem hr
            exact (ft.rms j r hj).2
          · obtain ⟨j, hj⟩ := List.getElem?_of_mem hr
            exact (fn.rms j r hj).2
        · rcases hOw5.2 with ⟨q, q2⟩ | ⟨g', cp, cur, q, q2, _⟩
          · exact .inr (List.eq_nil_of_length_eq_zero q2)
          · cases q
            cases hg
            exact .inl q2
      have HVn : Hid (vn = (t.l ++ n.l).length) := by
        show vn = (t.l ++ n.l).length
        rcases hOw5.2 with ⟨q, q2⟩ | ⟨g', cp, cur, q, _⟩
        · cases q; omega
        · cases q; rfl
      refine hK.out _ _ (.inr ⟨f0, f1, f2, f3⟩) ?_
      clear hK
      try simp only [Act.put, List.setIfInBounds_toArray, List.set_cons_zero, List.set_cons_succ]
      refine anyT_take (i := 21) (v := ?vr21x2) rfl (by kernel_rfl) (by kernel_rfl) (by kernel_rfl) (by kernel_rfl) (by decide) (fun _ _ _ h => h) (Or.inl ⟨by rfl, ?yr21x2⟩) (show _ ∧ _ from ⟨f0, f1, f2, f3⟩) ?_
      case yr21x2 => (intro wz hSw; (try dsimp only at hSw); go_simp; (try with_reducible rfl))
      try simp only [Act.put, List.setIfInBounds_toArray, List.set_cons_zero, List.set_cons_succ]
      obtain ⟨mc0, mc1, mf0, mf1⟩ : w5.cell? ⟨(w2.heap.size + 1), 0, none⟩ = some (.string ⟨#[]⟩) ∧ w5.cell? ⟨(w2.heap.size + 1), 1, none⟩ = some (.slice none 0 0) ∧ w5.frozen? ⟨(w2.heap.size + 1), 0, none⟩ = false ∧ w5.frozen? ⟨(w2.heap.size + 1), 1, none⟩ = false := by
        obtain ⟨y0, y1, y2, y3⟩ := HZ.out
        exact ⟨by rw [hbw5'.cell (p := ⟨(w2.heap.size + 1), 0, none⟩) (by show (w2.heap.size + 1) < W4.heap.size; omega)]; exact y0, by rw [hbw5'.cell (p := ⟨(w2.heap.size + 1), 1, none⟩) (by show (w2.heap.size + 1) < W4.heap.size; omega)]; exact y1, by rw [hbw5'.frozen (p := ⟨(w2.heap.size + 1), 0, none⟩) (by show (w2.heap.size + 1) < W4.heap.size; omega)]; exact y2, by rw [hbw5'.frozen (p := ⟨(w2.heap.size + 1), 1, none⟩) (by show (w2.heap.size + 1) < W4.heap.size; omega)]; exact y3⟩
      refine anyT_one (i := 23) (by kernel_rfl) rfl (fun K hK => ?_)
      go_simp
      refine hK.out _ _ (.inl rfl) ?_
      clear hK
      try simp only [Act.put, List.setIfInBounds_toArray, List.set_cons_zero, List.set_cons_succ]
      refine anyT_done (by kernel_rfl) ?_
      obtain ⟨R6, hR6⟩ : ∃ R6, R6 = (w2.heap.size + 1) := ⟨_, rfl⟩
      obtain ⟨Wf, hWf⟩ : ∃ Wf : World, Wf = (w5.setCell ⟨(w2.heap.size + 1), 0, none⟩ (.string t.lo)).setCell ⟨(w2.heap.size + 1), 1, none⟩ (.slice va vn vc) := ⟨_, rfl⟩
      have rc0 : Wf.cell? ⟨R6, 0, none⟩ = some (.string t.lo) := by rw [hWf, hR6]; simp [go_sem, mc0, mc1]
      have rc1 : Wf.cell? ⟨R6, 1, none⟩ = some (.slice va vn vc) := by rw [hWf, hR6]; simp [go_sem, mc0, mc1]
      have HFin : Hid (Below Wa.heap.size Wa Wf ∧ InRms Wf (.slice va vn vc) (t.l ++ n.l)) := by
        have hR : Wa.heap.size ≤ (w2.heap.size + 1) := by omega
        rw [hWf]
        refine ⟨(hbw5.setCell hR _).setCell hR _, ?_⟩
        have hrb : ∀ r ∈ t.l ++ n.l, r.b ≠ (w2.heap.size + 1) := fun r hr q => by
          obtain ⟨_, _, _, _, kt, kn⟩ := HK.out w2 hb2
          have : r.b < w2.heap.size := by
            rcases List.mem_append.1 hr with hr | hr
            · obtain ⟨j, hj⟩ := List.getElem?_of_mem hr
              exact (kt.rms j r hj).2.lt
            · obtain ⟨j, hj⟩ := List.getElem?_of_mem hr
              exact (kn.rms j r hj).2.lt
          omega
        have hva : ∀ g, va = some g → g.block ≠ (w2.heap.size + 1) ∨ t.l ++ n.l = [] := fun g hg => by
          rcases HIn.out.2 g hg with q | q
          · exact .inl (by omega)
          · exact .inr q
        exact inRms_set (inRms_set HIn.out.1 hva hrb) hva hrb
      rw [← hWf, ← hR6]
      clear hR6 hWf mc0 mc1 mf0 mf1 f0 f1 f2 f3
      have hvb : vn ≤ 2097152 := by have := HVn.out; rw [List.length_append] at this; omega
      have sf := HFin.out.1.size
      by_cases hfull : 50 < vn
      · have H : Hid (MrgT (tbs ts) row (tbs ts)) := mrgT_full HI.out (a := t.tb) (b := n.tb) (by rw [tbs_get, HTN.out.1]; rfl) (by rw [tbs_get, HTN.out.2]; rfl) (by have := HVn.out; simp [Tm.tb] at this ⊢; omega)
        have zf : (50 : Int) < (vn : Int) := by omega
        obtain ⟨k0, _, _, _⟩ := HWa.out Wf HFin.out.1
        go_wp2_with fail
        refine (HCp.out _ HFin.out.1).mono ?_
        rintro e w7 ⟨g, cp, xs, rfl, q1, q2, hc⟩
        go_wp2_with fail
        exact bodyPost_ret (v := .agg #[.slice (some ⟨g, 0, none⟩) xs.length cp]) (by simp [results, Try.results28, go_sem, q1]) rfl ⟨_, H.out, hc.out⟩
      · have zf : ¬ (50 : Int) < (vn : Int) := by omega
        obtain ⟨k0, _, _, kT, kB⟩ := HWa.out Wf HFin.out.1
        obtain ⟨W8, hW8⟩ : ∃ W8 : World, W8 = Wf.alloc (Obj.cells #[.string t.lo, .slice va vn vc] 133) := ⟨_, rfl⟩
        have hb8' : Below Wf.heap.size Wf W8 := by rw [hW8]; exact (Below.refl _ _).alloc (Nat.le_refl _) _
        have hb8 : Below Wa.heap.size Wa W8 := HFin.out.1.trans (hb8'.mono sf)
        have hz8 : W8.heap.size = Wf.heap.size + 1 := by rw [hW8]; simp
        have HT8 : Hid (TmsAt W8 b off ts ∧ TysAt W8 Wf.heap.size 0 [⟨t.lo, .slice va vn vc, t.l ++ n.l⟩]) := by
          refine ⟨kT.below hb8' kB, fun j u hu => ?_⟩
          have hj : j = 0 := by have := (List.getElem?_eq_some_iff.1 hu).1; simp at this; omega
          subst hj
          obtain rfl := Option.some.inj hu
          exact ⟨by rw [hW8]; simp, by rw [hW8]; simp, HFin.out.2.below hb8'⟩
        clear kT
        have HRp : Hid (Calls Try.prog 82 #[.agg #[.slice (some ⟨b, off, none⟩) ts.length cap], .int .i64 i, .int .i64 ((i : Int) + 2), .slice (some ⟨Wf.heap.size, 0, none⟩) 1 1] W8 fun e w' => ∃ (g cp : Nat) (xs : List Tx), e = .returned (.agg #[.slice (some ⟨g, 0, none⟩) xs.length cp]) ∧ w'.cell? ⟨w.heap.size + 1, 0, none⟩ = some (.slice none 0 0) ∧ w'.frozen? ⟨w.heap.size + 1, 0, none⟩ = false ∧ Hid (MgIPost w (tbs ts) row (.returned (.agg #[.slice (some ⟨g, 0, none⟩) xs.length cp])) (w'.setCell ⟨w.heap.size + 1, 0, none⟩ (.slice (some ⟨g, 0, none⟩) xs.length cp)))) := by
          have hln : (ts.map Tm.ty).length = ts.length := List.length_map ..
          have h9 := implReplaced_core b off cap (ts.map Tm.ty) [⟨t.lo, .slice va vn vc, t.l ++ n.l⟩] i (i + 2) Wf.heap.size W8 HT8.out.1.tys (by omega) HT8.out.2 (by omega) (by omega) (by simp) (by omega) (by unfold maxLen; omega) (by omega) (by rw [hln]; omega) (by simp) (fun x hx => by
            rcases List.mem_append.1 hx with hx | hx
            · exact HSy.out x hx
            · simp at hx
              subst hx
              have h3 := HS.out.2 t (List.mem_of_getElem? HTN.out.1)
              have h4 := HS.out.2 n (List.mem_of_getElem? HTN.out.2)
              refine ⟨?_, ?_⟩
              · show (t.l ++ n.l).length ≤ 1048576
                have := HVn.out
                omega
              · show totM (t.l ++ n.l) ≤ 1048576
                exact HTot.out)
          rw [hln] at h9
          have h10 : ((i + 2 : Nat) : Int) = (i : Int) + 2 := by omega
          rw [h10] at h9
          refine h9.mono ?_
          intro e w9 hp
          obtain ⟨g, cp, xs, rfl, hb9, hc⟩ := copy_in (w := w) (w.heap.size + 1) (hba.trans (hb8.mono (by omega))) (by omega) (by omega) hp
          obtain ⟨_, q1, q2, _⟩ := HWa.out w9 (hb8.trans (hb9.mono hb8.size))
          refine ⟨g, cp, xs, rfl, q1, q2, _, ?_, hc⟩
          have h11 := mrgT_done HG.out HI.out (a := t.tb) (b := n.tb) (by rw [tbs_get, HTN.out.1]; rfl) (by rw [tbs_get, HTN.out.2]; rfl) (by have := HVn.out; simp [Tm.tb] at this ⊢; omega)
          have h12 : ((ts.map Tm.ty).take i ++ [Ty.mk t.lo (.slice va vn vc) (t.l ++ n.l)] ++ (ts.map Tm.ty).drop (i + 2)).map Ty.tb = (tbs ts).take i ++ [⟨t.tb.lo, t.tb.rs ++ n.tb.rs⟩] ++ (tbs ts).drop (i + 2) := by
            rw [List.map_append, List.map_append, List.map_take, List.map_drop, tms_ty]
            simp [Ty.tb, Tm.tb]
          rw [h12]
          exact h11
        have zi2 : (i : Int) + 2 ≤ 1048580 := by omega
        go_wp2_with fail
        rw [← hW8]
        clear hW8
        refine HRp.out.mono ?_
        rintro e w9 ⟨g, cp, xs, rfl, q1, q2, hc⟩
        go_wp2_with fail
        exact bodyPost_ret (v := .agg #[.slice (some ⟨g, 0, none⟩) xs.length cp]) (by simp [results, Try.results28, go_sem, q1]) rfl hc.out
  · go_simp
    obtain ⟨W3, hW3⟩ : ∃ W3 : World, W3 = (w2.alloc (Obj.cells #[.string ⟨#[]⟩, .slice none 0 0] 133)).drew := ⟨_, rfl⟩
    have hb3' : Below w2.heap.size w2 W3 := by rw [hW3]; exact ((Below.refl _ _).alloc (Nat.le_refl _) _).drew
    have hb3 : Below Wa.heap.size Wa W3 := hb2.trans (hb3'.mono s2)
    have hz3 : W3.heap.size = w2.heap.size + 1 := by rw [hW3]; simp
    have HZ3 : Hid (W3.cell? ⟨w2.heap.size, 0, none⟩ = some (.string ⟨#[]⟩) ∧ W3.cell? ⟨w2.heap.size, 1, none⟩ = some (.slice none 0 0) ∧ W3.frozen? ⟨w2.heap.size, 0, none⟩ = false ∧ W3.frozen? ⟨w2.heap.size, 1, none⟩ = false) := by
      rw [hW3]
      refine ⟨?_, ?_, ?_, ?_⟩ <;> simp
    obtain ⟨e0, e1, e2, e3, _, _⟩ := HK.out W3 hb3
    rw [← hW3]
    refine hK.out _ _ (.inr ⟨e0, e1, e2, e3⟩) ?_
    clear hK hW3
    try simp only [Act.put, List.setIfInBounds_toArray, List.set_cons_zero, List.set_cons_succ]
    refine anyT_one (i := 19) (by kernel_rfl) rfl (fun K hK => ?_)
    · go_simp
      obtain ⟨W4, hW4⟩ : ∃ W4 : World, W4 = W3.alloc (Obj.cells #[.slice (some ⟨t.b, t.off, none⟩) t.l.length t.cap, .slice (some ⟨n.b, n.off, none⟩) n.l.length n.cap] 23) := ⟨_, rfl⟩
      have hb4' : Below W3.heap.size W3 W4 := by rw [hW4]; exact (Below.refl _ _).alloc (Nat.le_refl _) _
      have hb4 : Below Wa.heap.size Wa W4 := hb3.trans (hb4'.mono hb3.size)
      have hz4 : W4.heap.size = w2.heap.size + 1 + 1 := by rw [hW4]; simp [hz3]
      have HPs : Hid (PtsAt W4 (w2.heap.size + 1) [⟨t.b, t.off, t.cap, t.l.map Rm.u⟩, ⟨n.b, n.off, n.cap, n.l.map Rm.u⟩]) := HPts.out W4 _ hb4 (by rw [hW4, ← hz3]; simp) (by rw [hW4, ← hz3]; simp)
      have HZ : Hid (W4.cell? ⟨w2.heap.size, 0, none⟩ = some (.string ⟨#[]⟩) ∧ W4.cell? ⟨w2.heap.size, 1, none⟩ = some (.slice none 0 0) ∧ W4.frozen? ⟨w2.heap.size, 0, none⟩ = false ∧ W4.frozen? ⟨w2.heap.size, 1, none⟩ = false) := by
        obtain ⟨y0, y1, y2, y3⟩ := HZ3.out
        exact ⟨by rw [hb4'.cell (p := ⟨w2.heap.size, 0, none⟩) (by show w2.heap.size < W3.heap.size; omega)]; exact y0, by rw [hb4'.cell (p := ⟨w2.heap.size, 1, none⟩) (by show w2.heap.size < W3.heap.size; omega)]; exact y1, by rw [hb4'.frozen (p := ⟨w2.heap.size, 0, none⟩) (by show w2.heap.size < W3.heap.size; omega)]; exact y2, by rw [hb4'.frozen (p := ⟨w2.heap.size, 1, none⟩) (by show w2.heap.size < W3.heap.size; omega)]; exact y3⟩
      obtain ⟨g0, g1, g2, g3, _, _⟩ := HK.out W4 hb4
      rw [← hW4]
      refine hK.out _ _ (.inr ⟨g0, g1, g2, g3⟩) ?_
      clear hK hW4 e0 e1 e2 e3
      try simp only [Act.put, List.setIfInBounds_toArray, List.set_cons_zero, List.set_cons_succ]
      refine anyT_one (i := 20) (by kernel_rfl) rfl (fun K hK => ?_)
      go_simp
      go_at_call 81
      refine (concatR_core (w2.heap.size + 1) _ _ HPs.out (by omega) (by rw [hall, List.length_map, List.length_append]; omega) (by simp)).mono ?_
      rintro r w5 ⟨v, rfl, hOw5, hbw5'⟩
      rw [hall, List.length_map] at hOw5
      obtain ⟨va, vn, vc, rfl⟩ : ∃ va vn vc, v = .slice va vn vc := by
        rcases hOw5.2 with ⟨q, _⟩ | ⟨g, cp, cur, q, _⟩ <;> exact ⟨_, _, _, q⟩
      have hbw5 : Below Wa.heap.size Wa w5 := hb4.trans (hbw5'.mono hb4.size)
      have sw5 := hbw5'.size
      obtain ⟨f0, f1, f2, f3, ft, fn⟩ := HK.out w5 hbw5
      have HIn : Hid (InRms w5 (.slice va vn vc) (t.l ++ n.l) ∧ (∀ g, va = some g → W4.heap.size ≤ g.block ∨ t.l ++ n.l = [])) := by
        refine ⟨inRms_cat hOw5 (fun r hr => ?_), fun g hg => ?_⟩
        · rcases List.mem_append.1 hr with hr | hr
          · obtain ⟨j, hj⟩ := List.getElem?_of_mem hr
            exact (ft.rms j r hj).2
          · obtain ⟨j, hj⟩ := List.getElem?_of_mem hr
            exact (fn.rms j r hj).2
        · rcases hOw5.2 with ⟨q, q2⟩ | ⟨g', cp, cur, q, q2, _⟩
          · exact .inr (List.eq_nil_of_length_eq_zero q2)
          · cases q
            cases hg
            exact .inl q2
      have HVn : Hid (vn = (t.l ++ n.l).length) := by
        show vn = (t.l ++ n.l).length
        rcases hOw5.2 with ⟨q, q2⟩ | ⟨g', cp, cur, q, _⟩
        · cases q; omega
        · cases q; rfl
      refine hK.out _ _ (.inr ⟨f0, f1, f2, f3⟩) ?_
      clear hK
      try simp only [Act.put, List.setIfInBounds_toArray, List.set_cons_zero, List.set_cons_succ]
      refine anyT_take (i := 21) (v := ?vr21x3) rfl (by kernel_rfl) (by kernel_rfl) (by kernel_rfl) (by kernel_rfl) (by decide) (fun _ _ _ h => h) (Or.inl ⟨by rfl, ?yr21x3⟩) (show _ ∧ _ from ⟨f0, f1, f2, f3⟩) ?_
      case yr21x3 => (intro wz hSw; (try dsimp only at hSw); go_simp; (try with_reducible rfl))
      try simp only [Act.put, List.setIfInBounds_toArray, List.set_cons_zero, List.set_cons_succ]
      obtain ⟨mc0, mc1, mf0, mf1⟩ : w5.cell? ⟨w2.heap.size, 0, none⟩ = some (.string ⟨#[]⟩) ∧ w5.cell? ⟨w2.heap.size, 1, none⟩ = some (.slice none 0 0) ∧ w5.frozen? ⟨w2.heap.size, 0, none⟩ = false ∧ w5.frozen? ⟨w2.heap.size, 1, none⟩ = false := by
        obtain ⟨y0, y1, y2, y3⟩ := HZ.out
        exact ⟨by rw [hbw5'.cell (p := ⟨w2.heap.size, 0, none⟩) (by show w2.heap.size < W4.heap.size; omega)]; exact y0, by rw [hbw5'.cell (p := ⟨w2.heap.size, 1, none⟩) (by show w2.heap.size < W4.heap.size; omega)]; exact y1, by rw [hbw5'.frozen (p := ⟨w2.heap.size, 0, none⟩) (by show w2.heap.size < W4.heap.size; omega)]; exact y2, by rw [hbw5'.frozen (p := ⟨w2.heap.size, 1, none⟩) (by show w2.heap.size < W4.heap.size; omega)]; exact y3⟩
      refine anyT_one (i := 23) (by kernel_rfl) rfl (fun K hK => ?_)
      go_simp
      refine hK.out _ _ (.inl rfl) ?_
      clear hK
      try simp only [Act.put, List.setIfInBounds_toArray, List.set_cons_zero, List.set_cons_succ]
      refine anyT_done (by kernel_rfl) ?_
      obtain ⟨R6, hR6⟩ : ∃ R6, R6 = w2.heap.size := ⟨_, rfl⟩
      obtain ⟨Wf, hWf⟩ : ∃ Wf : World, Wf = (w5.setCell ⟨w2.heap.size, 0, none⟩ (.string t.lo)).setCell ⟨w2.heap.size, 1, none⟩ (.slice va vn vc) := ⟨_, rfl⟩
      have rc0 : Wf.cell? ⟨R6, 0, none⟩ = some (.string t.lo) := by rw [hWf, hR6]; simp [go_sem, mc0, mc1]
      have rc1 : Wf.cell? ⟨R6, 1, none⟩ = some (.slice va vn vc) := by rw [hWf, hR6]; simp [go_sem, mc0, mc1]
      have HFin : Hid (Below Wa.heap.size Wa Wf ∧ InRms Wf (.slice va vn vc) (t.l ++ n.l)) := by
        have hR : Wa.heap.size ≤ w2.heap.size := by omega
        rw [hWf]
        refine ⟨(hbw5.setCell hR _).setCell hR _, ?_⟩
        have hrb : ∀ r ∈ t.l ++ n.l, r.b ≠ w2.heap.size := fun r hr q => by
          obtain ⟨_, _, _, _, kt, kn⟩ := HK.out w2 hb2
          have : r.b < w2.heap.size := by
            rcases List.mem_append.1 hr with hr | hr
            · obtain ⟨j, hj⟩ := List.getElem?_of_mem hr
              exact (kt.rms j r hj).2.lt
            · obtain ⟨j, hj⟩ := List.getElem?_of_mem hr
              exact (kn.rms j r hj).2.lt
          omega
        have hva : ∀ g, va = some g → g.block ≠ w2.heap.size ∨ t.l ++ n.l = [] := fun g hg => by
          rcases HIn.out.2 g hg with q | q
          · exact .inl (by omega)
          · exact .inr q
        exact inRms_set (inRms_set HIn.out.1 hva hrb) hva hrb
      rw [← hWf, ← hR6]
      clear hR6 hWf mc0 mc1 mf0 mf1 f0 f1 f2 f3
      have hvb : vn ≤ 2097152 := by have := HVn.out; rw [List.length_append] at this; omega
      have sf := HFin.out.1.size
      by_cases hfull : 50 < vn
      · have H : Hid (MrgT (tbs ts) row (tbs ts)) := mrgT_full HI.out (a := t.tb) (b := n.tb) (by rw [tbs_get, HTN.out.1]; rfl) (by rw [tbs_get, HTN.out.2]; rfl) (by have := HVn.out; simp [Tm.tb] at this ⊢; omega)
        have zf : (50 : Int) < (vn : Int) := by omega
        obtain ⟨k0, _, _, _⟩ := HWa.out Wf HFin.out.1
        go_wp2_with fail
        refine (HCp.out _ HFin.out.1).mono ?_
        rintro e w7 ⟨g, cp, xs, rfl, q1, q2, hc⟩
        go_wp2_with fail
        exact bodyPost_ret (v := .agg #[.slice (some ⟨g, 0, none⟩) xs.length cp]) (by simp [results, Try.results28, go_sem, q1]) rfl ⟨_, H.out, hc.out⟩
      · have zf : ¬ (50 : Int) < (vn : Int) := by omega
        obtain ⟨k0, _, _, kT, kB⟩ := HWa.out Wf HFin.out.1
        obtain ⟨W8, hW8⟩ : ∃ W8 : World, W8 = Wf.alloc (Obj.cells #[.string t.lo, .slice va vn vc] 133) := ⟨_, rfl⟩
        have hb8' : Below Wf.heap.size Wf W8 := by rw [hW8]; exact (Below.refl _ _).alloc (Nat.le_refl _) _
        have hb8 : Below Wa.heap.size Wa W8 := HFin.out.1.trans (hb8'.mono sf)
        have hz8 : W8.heap.size = Wf.heap.size + 1 := by rw [hW8]; simp
        have HT8 : Hid (TmsAt W8 b off ts ∧ TysAt W8 Wf.heap.size 0 [⟨t.lo, .slice va vn vc, t.l ++ n.l⟩]) := by
          refine ⟨kT.below hb8' kB, fun j u hu => ?_⟩
          have hj : j = 0 := by have := (List.getElem?_eq_some_iff.1 hu).1; simp at this; omega
          subst hj
          obtain rfl := Option.some.inj hu
          exact ⟨by rw [hW8]; simp, by rw [hW8]; simp, HFin.out.2.below hb8'⟩
        clear kT
        have HRp : Hid (Calls Try.prog 82 #[.agg #[.slice (some ⟨b, off, none⟩) ts.length cap], .int .i64 i, .int .i64 ((i : Int) + 2), .slice (some ⟨Wf.heap.size, 0, none⟩) 1 1] W8 fun e w' => ∃ (g cp : Nat) (xs : List Tx), e = .returned (.agg #[.slice (some ⟨g, 0, none⟩) xs.length cp]) ∧ w'.cell? ⟨w.heap.size + 1, 0, none⟩ = some (.slice none 0 0) ∧ w'.frozen? ⟨w.heap.size + 1, 0, none⟩ = false ∧ Hid (MgIPost w (tbs ts) row (.returned (.agg #[.slice (some ⟨g, 0, none⟩) xs.length cp])) (w'.setCell ⟨w.heap.size + 1, 0, none⟩ (.slice (some ⟨g, 0, none⟩) xs.length cp)))) := by
          have hln : (ts.map Tm.ty).length = ts.length := List.length_map ..
          have h9 := implReplaced_core b off cap (ts.map Tm.ty) [⟨t.lo, .slice va vn vc, t.l ++ n.l⟩] i (i + 2) Wf.heap.size W8 HT8.out.1.tys (by omega) HT8.out.2 (by omega) (by omega) (by simp) (by omega) (by unfold maxLen; omega) (by omega) (by rw [hln]; omega) (by simp) (fun x hx => by
            rcases List.mem_append.1 hx with hx | hx
            · exact HSy.out x hx
            · simp at hx
              subst hx
              have h3 := HS.out.2 t (List.mem_of_getElem? HTN.out.1)
              have h4 := HS.out.2 n (List.mem_of_getElem? HTN.out.2)
              refine ⟨?_, ?_⟩
              · show (t.l ++ n.l).length ≤ 1048576
                have := HVn.out
                omega
              · show totM (t.l ++ n.l) ≤ 1048576
                exact HTot.out)
          rw [hln] at h9
          have h10 : ((i + 2 : Nat) : Int) = (i : Int) + 2 := by omega
          rw [h10] at h9
          refine h9.mono ?_
          intro e w9 hp
          obtain ⟨g, cp, xs, rfl, hb9, hc⟩ := copy_in (w := w) (w.heap.size + 1) (hba.trans (hb8.mono (by omega))) (by omega) (by omega) hp
          obtain ⟨_, q1, q2, _⟩ := HWa.out w9 (hb8.trans (hb9.mono hb8.size))
          refine ⟨g, cp, xs, rfl, q1, q2, _, ?_, hc⟩
          have h11 := mrgT_done HG.out HI.out (a := t.tb) (b := n.tb) (by rw [tbs_get, HTN.out.1]; rfl) (by rw [tbs_get, HTN.out.2]; rfl) (by have := HVn.out; simp [Tm.tb] at this ⊢; omega)
          have h12 : ((ts.map Tm.ty).take i ++ [Ty.mk t.lo (.slice va vn vc) (t.l ++ n.l)] ++ (ts.map Tm.ty).drop (i + 2)).map Ty.tb = (tbs ts).take i ++ [⟨t.tb.lo, t.tb.rs ++ n.tb.rs⟩] ++ (tbs ts).drop (i + 2) := by
            rw [List.map_append, List.map_append, List.map_take, List.map_drop, tms_ty]
            simp [Ty.tb, Tm.tb]
          rw [h12]
          exact h11
        have zi2 : (i : Int) + 2 ≤ 1048580 := by omega
        go_wp2_with fail
        rw [← hW8]
        clear hW8
        refine HRp.out.mono ?_
        rintro e w9 ⟨g, cp, xs, rfl, q1, q2, hc⟩
        go_wp2_with fail
        exact bodyPost_ret (v := .agg #[.slice (some ⟨g, 0, none⟩) xs.length cp]) (by simp [results, Try.results28, go_sem, q1]) rfl hc.out

end Go.Proofs.Ytlgeffinhbodeae
