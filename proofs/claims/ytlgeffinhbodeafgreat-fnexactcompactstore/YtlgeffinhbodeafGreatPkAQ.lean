import Derived.Deep.DeepCutAuto
import Derived.Test.YtlgeffinhbodeafGreatPkAP
import Derived.Test.YtlgeffinhbodeafGreatPkAO
/-
  impl.CompactStore.
-/
namespace Go.Proofs.YtlgeffinhbodeafGreat
open Go.ChangeShapes Go.WideShapes Go.ChangeAt Go.RowKit Go.Deep
set_option linter.unusedVariables false
set_option linter.unusedSimpArgs false
set_option maxRecDepth 100000

/-- What CompactStore of impl hands back. -/
def CsIPost (w : World) (tb : List Tb) (row : ByteArray) (e : Ending) (w' : World) : Prop := ∃ out, CmsT tb row out ∧ CpIPost w out e w'
theorem cmpOf_few {rs : List (List Ent)} {R : List Ent} (h : CmpOf rs R) (hf : ∀ L, MrgOf rs allR L → ¬ 10000 < L.length) : ∃ L, MrgOf rs allR L ∧ L.length ≤ 10000 ∧ R = L.map putE := by
  obtain ⟨L, hM, ⟨h1, _⟩ | ⟨h1, h2⟩⟩ := h
  · exact absurd h1 (hf L hM)
  · exact ⟨L, hM, h1, h2⟩
/-- A row of one run, of the call's own. -/
theorem one_inRms {w : World} {g g2 cp : Nat} {base : Nat} {R : List Ent} (hc : w.cell? ⟨g, 0, none⟩ = some (.slice (some ⟨g2, 0, none⟩) R.length cp)) (hg : g < w.heap.size) (hO : OwnE w base g2 cp R) : InRms w (.slice (some ⟨g, 0, none⟩) 1 1) [⟨g2, 0, cp, R⟩] := by
  refine .inr ⟨g, 0, 1, rfl, fun i r hi => ?_, hg, Nat.le_refl _, by unfold maxLen; omega⟩
  match i with
  | 0 => simp at hi; subst hi; exact ⟨by simpa using hc, hO.at, hO.lt.2, hO.caps.1, hO.caps.2⟩
  | i + 1 => simp at hi

set_option maxHeartbeats 8000000 in
theorem implCompact_store (b off cap : Nat) (ts : List Tm) (row : ByteArray) (w : World) (h : TmsAt w b off ts) (hok : okTs ts) (hB : b < w.heap.size) (hn : ts.length ≤ 1048576) (hcap : ts.length ≤ cap) (hcm : cap ≤ maxLen) (hs : ∀ t ∈ ts, t.l.length ≤ 1048576 ∧ totM t.l ≤ 1048576) :
    Calls Tryz.prog 17 #[.agg #[.slice (some ⟨b, off, none⟩) ts.length cap], .string row] w fun e w' => CsIPost w (tbs ts) row e w' := by
  obtain ⟨Wa, hWa⟩ : ∃ Wa : World, Wa = (w.alloc (Obj.cells #[.slice (some ⟨b, off, none⟩) ts.length cap] 30)).alloc (Obj.cells #[.slice none 0 0] 30) := ⟨_, rfl⟩
  have hba : Below w.heap.size w Wa := by rw [hWa]; exact ((Below.refl _ _).alloc (Nat.le_refl _) _).alloc (by simp) _
  have hza : Wa.heap.size = w.heap.size + 1 + 1 := by rw [hWa]; simp
  have HWa : Hid (∀ wx, Below Wa.heap.size Wa wx → wx.cell? ⟨w.heap.size, 0, none⟩ = some (.slice (some ⟨b, off, none⟩) ts.length cap) ∧ wx.cell? ⟨w.heap.size + 1, 0, none⟩ = some (.slice none 0 0) ∧ wx.frozen? ⟨w.heap.size + 1, 0, none⟩ = false ∧ TmsAt wx b off ts ∧ b < wx.heap.size) := by
    intro wx hx
    have sx := hx.size
    refine ⟨?_, ?_, ?_, (h.below hba hB).below hx (by omega), by omega⟩
    · rw [hx.cell (p := ⟨w.heap.size, 0, none⟩) (by show w.heap.size < Wa.heap.size; omega), hWa]; simp [go_sem]
    · rw [hx.cell (p := ⟨w.heap.size + 1, 0, none⟩) (by show w.heap.size + 1 < Wa.heap.size; omega), hWa]; simp [go_sem]
    · rw [hx.frozen (p := ⟨w.heap.size + 1, 0, none⟩) (by show w.heap.size + 1 < Wa.heap.size; omega), hWa]; simp [go_sem]
  have HS : Hid (okTs ts ∧ ∀ t ∈ ts, t.l.length ≤ 1048576 ∧ totM t.l ≤ 1048576) := ⟨hok, hs⟩
  have HSy : Hid (∀ t ∈ ts.map Tm.ty, t.l.length ≤ 1048576 ∧ totM t.l ≤ 1048576) := by
    intro t ht
    obtain ⟨u, hu, rfl⟩ := List.mem_map.1 ht
    exact hs u hu
  -- a copy of the store as it came
  have HCp : Hid (∀ W, Below Wa.heap.size Wa W → Calls Tryz.prog 30 #[.agg #[.slice (some ⟨b, off, none⟩) ts.length cap]] W fun e w' => ∃ (g cp : Nat) (xs : List Tx), e = .returned (.agg #[.slice (some ⟨g, 0, none⟩) xs.length cp]) ∧ w'.cell? ⟨w.heap.size + 1, 0, none⟩ = some (.slice none 0 0) ∧ w'.frozen? ⟨w.heap.size + 1, 0, none⟩ = false ∧ Hid (CpIPost w (tbs ts) (.returned (.agg #[.slice (some ⟨g, 0, none⟩) xs.length cp])) (w'.setCell ⟨w.heap.size + 1, 0, none⟩ (.slice (some ⟨g, 0, none⟩) xs.length cp)))) := by
    intro W hW
    obtain ⟨_, _, _, hT, hb'⟩ := HWa.out W hW
    have := implCopied_core b off cap (ts.map Tm.ty) W hT.tys hb' (by rw [List.length_map]; exact hn) HSy.out
    rw [List.length_map, tms_ty] at this
    refine this.mono ?_
    intro e w3 hp
    have sW := hW.size
    obtain ⟨g, cp, xs, rfl, hb3, hc⟩ := copy_in (w := w) (w.heap.size + 1) (hba.trans (hW.mono (by omega))) (by omega) (by omega) hp
    obtain ⟨_, q1, q2, _⟩ := HWa.out w3 (hW.trans (hb3.mono sW))
    exact ⟨g, cp, xs, rfl, q1, q2, hc⟩
  unfold maxLen at hcm
  clear h hok hs
  obtain ⟨c0, _, _, hT0, hB0⟩ := HWa.out Wa (Below.refl _ _)
  have HT0 : Hid (TmsAt Wa b off ts) := hT0
  clear hT0
  go_enter Tryz.func17, Tryz.ntmps17
  go_upto_region 1 with fail
  rw [← hWa]
  clear hWa
  go_wp2_with fail
  refine (implValidStore_core b off cap ts _ HT0.out HS.out.1 hB0 hn).mono ?_
  rintro e w1 ⟨r, rfl, hr, hb1⟩
  have HR : Hid (r = true ↔ GoodS (tbs ts)) := hr
  have s1 := hb1.size
  clear hr c0
  obtain ⟨c0, _, _, hT1, hB1⟩ := HWa.out w1 hb1
  have HT1 : Hid (TmsAt w1 b off ts) := hT1
  clear hT1
  cases r
  · have H : Hid (CmsT (tbs ts) row (tbs ts)) := cmsT_bad (fun q => Bool.noConfusion (HR.out.2 q))
    go_wp2_with fail
    refine (HCp.out _ hb1).mono ?_
    rintro e w3 ⟨g, cp, xs, rfl, q1, q2, hc⟩
    go_wp2_with fail
    exact bodyPost_ret (v := .agg #[.slice (some ⟨g, 0, none⟩) xs.length cp]) (by simp [results, Tryz.results17, go_sem, q1]) rfl ⟨_, H.out, hc.out⟩
  have HG : Hid (GoodS (tbs ts)) := HR.out.1 rfl
  obtain ⟨i, hi⟩ := hold_ex HG.out row
  have HI : Hid (HoldAt (tbs ts) row i) := hi
  have hil : i < ts.length := by have := hi.1; rw [tbs_len] at this; exact this
  have hn100 : ts.length ≤ 100 := by have := HG.out.le; rw [tbs_len] at this; exact this
  clear hi
  go_wp2_with fail
  refine (implHolder_core b off cap ts row i _ HT1.out hB1 hn HG.out HI.out).mono ?_
  rintro e w2 ⟨rfl, hb2'⟩
  have hb2 : Below Wa.heap.size Wa w2 := hb1.trans (hb2'.mono s1)
  have s2 := hb2.size
  clear hb2' c0
  obtain ⟨c0, _, _, hT2, hB2⟩ := HWa.out w2 hb2
  have HT2 : Hid (TmsAt w2 b off ts) := hT2
  clear hT2
  obtain ⟨t, ht⟩ : ∃ t, ts[i]? = some t := ⟨_, List.getElem?_eq_getElem hil⟩
  have hT2' := HT2.out
  obtain ⟨c1, c2, _⟩ := hT2' i t ht
  have HTN : Hid (ts[i]? = some t) := ht
  have HTb : Hid ((tbs ts)[i]? = some t.tb) := by
    show (tbs ts)[i]? = some t.tb
    rw [tbs_get, ht]; rfl
  have HOk : Hid (okM t.l ∧ t.l.length ≤ 1048576 ∧ ∀ r ∈ t.l, GoodR r.es) := ⟨(HS.out.1 t (List.mem_of_getElem? ht)).ents, (HS.out.2 t (List.mem_of_getElem? ht)).1, fun r hr => (HG.out.tabs i _ HTb.out).runs.2 _ (List.mem_map.2 ⟨r, hr, rfl⟩)⟩
  clear ht hT2' HT2
  have zi : (i : Int) < (ts.length : Int) := by omega
  have hwr : IntKind.i64.wrap ((i : Int) + 1) = (i : Int) + 1 := by rw [IntKind.wrap_i64]; omega
  obtain ⟨W4, hW4⟩ : ∃ W4 : World, W4 = w2.alloc (Obj.cells #[.string t.lo, .slice (some ⟨t.b, t.off, none⟩) t.l.length t.cap] 56) := ⟨_, rfl⟩
  have hbW4 : Below w2.heap.size w2 W4 := by rw [hW4]; exact (Below.refl _ _).alloc (Nat.le_refl _) _
  have hz4 : W4.heap.size = w2.heap.size + 1 := by rw [hW4]; simp
  have k4 : Below Wa.heap.size Wa W4 := hb2.trans (hbW4.mono s2)
  have HK4 : Hid (∀ wx, Below W4.heap.size W4 wx → Below Wa.heap.size Wa wx ∧ wx.cell? ⟨w.heap.size, 0, none⟩ = some (.slice (some ⟨b, off, none⟩) ts.length cap) ∧ wx.cell? ⟨w2.heap.size, 0, none⟩ = some (.string t.lo) ∧ wx.cell? ⟨w2.heap.size, 1, none⟩ = some (.slice (some ⟨t.b, t.off, none⟩) t.l.length t.cap) ∧ t.at wx) := by
    intro wx hx
    have k := k4.trans (hx.mono k4.size)
    refine ⟨k, (HWa.out wx k).1, ?_, ?_, ((HWa.out wx k).2.2.2.1 i t HTN.out).2.2⟩
    · rw [hx.cell (p := ⟨w2.heap.size, 0, none⟩) (by show w2.heap.size < W4.heap.size; omega), hW4]; simp
    · rw [hx.cell (p := ⟨w2.heap.size, 1, none⟩) (by show w2.heap.size < W4.heap.size; omega), hW4]; simp
  clear hz4
  go_upto_region 5 with fail
  rw [← hW4]
  clear hW4 c0 c1 c2
  obtain ⟨_, c0, c1, c2, hat4⟩ := HK4.out W4 (Below.refl _ _)
  have HAt4 : Hid (t.at W4) := hat4
  clear hat4
  go_wp2_with fail
  refine (overfull_core t.lo t.b t.off t.cap t.l ⟨#[]⟩ ⟨#[]⟩ false _ HAt4.out.rms HOk.out.1 HAt4.out.lt HOk.out.2.1 HOk.out.2.2).mono ?_
  rintro e v5 ⟨r5, rfl, hr5, hx5, hb5⟩
  have HR5 : Hid (∀ L, MrgOf t.tb.rs allR L → (r5 = true ↔ 10000 < L.length)) := hr5
  have HX5 : Hid (r5 = true → ∃ L, MrgOf t.tb.rs allR L ∧ 10000 < L.length) := hx5
  clear hr5 hx5 c0 c1 c2
  obtain ⟨k5, c0, c1, c2, hat5⟩ := HK4.out v5 hb5
  have HAt5 : Hid (t.at v5) := hat5
  clear hat5
  cases r5
  case true =>
    have H : Hid (CmsT (tbs ts) row (tbs ts)) := by
      obtain ⟨L, hM, hl⟩ := HX5.out rfl
      exact cmsT_much HG.out HI.out HTb.out hM hl
    go_wp2_with fail
    refine (HCp.out _ k5).mono ?_
    rintro e w3 ⟨g, cp, xs, rfl, q1, q2, hc⟩
    go_wp2_with fail
    exact bodyPost_ret (v := .agg #[.slice (some ⟨g, 0, none⟩) xs.length cp]) (by simp [results, Tryz.results17, go_sem, q1]) rfl ⟨_, H.out, hc.out⟩
  case false =>
  have s5 := hb5.size
  obtain ⟨W6, hW6⟩ : ∃ W6 : World, W6 = v5.alloc (Obj.cells #[.string t.lo, .slice none 0 0] 56) := ⟨_, rfl⟩
  have hb6 : Below v5.heap.size v5 W6 := by rw [hW6]; exact (Below.refl _ _).alloc (Nat.le_refl _) _
  have hz6 : W6.heap.size = v5.heap.size + 1 := by rw [hW6]; simp
  have h46 : Below W4.heap.size W4 W6 := hb5.trans (hb6.mono s5)
  have HZ6 : Hid (∀ wx, Below W6.heap.size W6 wx → wx.cell? ⟨v5.heap.size, 0, none⟩ = some (.string t.lo) ∧ wx.cell? ⟨v5.heap.size, 1, none⟩ = some (.slice none 0 0) ∧ wx.frozen? ⟨v5.heap.size, 1, none⟩ = false ∧ v5.heap.size < wx.heap.size) := by
    intro wx hx
    have sx := hx.size
    refine ⟨?_, ?_, ?_, by omega⟩
    · rw [hx.cell (p := ⟨v5.heap.size, 0, none⟩) (by show v5.heap.size < W6.heap.size; omega), hW6]; simp
    · rw [hx.cell (p := ⟨v5.heap.size, 1, none⟩) (by show v5.heap.size < W6.heap.size; omega), hW6]; simp
    · rw [hx.frozen (p := ⟨v5.heap.size, 1, none⟩) (by show v5.heap.size < W6.heap.size; omega), hW6]; simp
  have s6 : Hid (Wa.heap.size ≤ v5.heap.size ∧ W4.heap.size ≤ v5.heap.size ∧ W6.heap.size = v5.heap.size + 1) := ⟨k5.size, s5, hz6⟩
  clear hz6
  go_upto_region 8 with fail
  rw [← hW6]
  clear hW6 c0 c1 c2
  obtain ⟨k6, c0, c1, c2, hat6⟩ := HK4.out W6 h46
  have HAt6 : Hid (t.at W6) := hat6
  clear hat6
  go_wp2_with fail
  refine (implCompact_core t.b t.off t.cap t.l _ HAt6.out.rms HOk.out.1 HAt6.out.lt HOk.out.2.1).mono ?_
  rintro e v7 ⟨a, n, c, R, rfl, hO7, hCm, hb7, _⟩
  obtain ⟨L, hML, hL, hRL⟩ := cmpOf_few hCm (fun L hL => fun q => Bool.noConfusion ((HR5.out L hL).2 q))
  have HL : Hid (MrgOf t.tb.rs allR L ∧ L.length ≤ 10000 ∧ R = L.map putE) := ⟨hML, hL, hRL⟩
  have hRl : R.length ≤ 10000 := by rw [hRL, List.length_map]; exact hL
  have HO7 : Hid (OwnU v7 W6.heap.size (.slice a n c) R) := hO7
  clear hML hL hRL hO7 hCm
  have s7 := hb7.size
  -- the replacement, at any world
  have HRp : Hid (∀ (X : World) (va : Option Addr) (vn vc : Nat) (l' : List Rm), Below Wa.heap.size Wa X → InRms X (.slice va vn vc) l' → esM l' = oneRun L → Calls Tryz.prog 46 #[.agg #[.slice (some ⟨b, off, none⟩) ts.length cap], .int .i64 i, .int .i64 ((i : Int) + 1), .slice (some ⟨X.heap.size, 0, none⟩) 1 1] (X.alloc (Obj.cells #[.string t.lo, .slice va vn vc] 56)) fun e w' => ∃ (g cp : Nat) (xs : List Tx), e = .returned (.agg #[.slice (some ⟨g, 0, none⟩) xs.length cp]) ∧ w'.cell? ⟨w.heap.size + 1, 0, none⟩ = some (.slice none 0 0) ∧ w'.frozen? ⟨w.heap.size + 1, 0, none⟩ = false ∧ Hid (CsIPost w (tbs ts) row (.returned (.agg #[.slice (some ⟨g, 0, none⟩) xs.length cp])) (w'.setCell ⟨w.heap.size + 1, 0, none⟩ (.slice (some ⟨g, 0, none⟩) xs.length cp)))) := by
    intro X va vn vc l' hX hIn hes
    obtain ⟨W8, hW8⟩ : ∃ W8 : World, W8 = X.alloc (Obj.cells #[.string t.lo, .slice va vn vc] 56) := ⟨_, rfl⟩
    rw [← hW8]
    have sf := hX.size
    obtain ⟨k0, _, _, kT, kB⟩ := HWa.out X hX
    have hb8' : Below X.heap.size X W8 := by rw [hW8]; exact (Below.refl _ _).alloc (Nat.le_refl _) _
    have hb8 : Below Wa.heap.size Wa W8 := hX.trans (hb8'.mono sf)
    have hz8 : W8.heap.size = X.heap.size + 1 := by rw [hW8]; simp
    have HT8 : TmsAt W8 b off ts ∧ TysAt W8 X.heap.size 0 [⟨t.lo, .slice va vn vc, l'⟩] := by
      refine ⟨kT.below hb8' kB, fun j u hu => ?_⟩
      have hj : j = 0 := by have := (List.getElem?_eq_some_iff.1 hu).1; simp at this; omega
      subst hj
      obtain rfl := Option.some.inj hu
      exact ⟨by rw [hW8]; simp, by rw [hW8]; simp, hIn.below hb8'⟩
    have hln : (ts.map Tm.ty).length = ts.length := List.length_map ..
    have hsm : l'.length ≤ 1048576 ∧ totM l' ≤ 1048576 := by
      have h1 := szR_totM l'
      rw [hes] at h1
      have h2 : szR (oneRun L) ≤ 10001 := by
        unfold oneRun
        split
        · simp [szR]
        · have := HL.out.2.1
          simp only [szR, List.length_map]; omega
      omega
    have h9 := implReplaced_core b off cap (ts.map Tm.ty) [⟨t.lo, .slice va vn vc, l'⟩] i (i + 1) X.heap.size W8 HT8.1.tys (by omega) HT8.2 (by omega) (by omega) (by simp) (by omega) (by unfold maxLen; omega) (by omega) (by rw [hln]; omega) (by simp) (fun x hx => by
      rcases List.mem_append.1 hx with hx | hx
      · exact HSy.out x hx
      · simp at hx
        subst hx
        exact hsm)
    rw [hln] at h9
    have h10 : ((i + 1 : Nat) : Int) = (i : Int) + 1 := by omega
    rw [h10] at h9
    refine h9.mono ?_
    intro e w9 hp
    obtain ⟨g, cp, xs, rfl, hb9, hc⟩ := copy_in (w := w) (w.heap.size + 1) (hba.trans (hb8.mono (by omega))) (by omega) (by omega) hp
    obtain ⟨_, q1, q2, _⟩ := HWa.out w9 (hb8.trans (hb9.mono hb8.size))
    refine ⟨g, cp, xs, rfl, q1, q2, _, ?_, hc⟩
    have h12 : ((ts.map Tm.ty).take i ++ [Ty.mk t.lo (.slice va vn vc) l'] ++ (ts.map Tm.ty).drop (i + 1)).map Ty.tb = packT (tbs ts) i t.tb L := by
      rw [List.map_append, List.map_append, List.map_take, List.map_drop, tms_ty]
      simp only [List.map_cons, List.map_nil, Ty.tb, hes]
      rfl
    rw [h12]
    exact cmsT_done HG.out HI.out HTb.out HL.out.1 HL.out.2.1
  obtain ⟨W8, hW8⟩ : ∃ W8 : World, W8 = v7.alloc (Obj.cells #[.slice a n c] 58) := ⟨_, rfl⟩
  have hb8 : Below v7.heap.size v7 W8 := by rw [hW8]; exact (Below.refl _ _).alloc (Nat.le_refl _) _
  have h68 : Below W6.heap.size W6 W8 := hb7.trans (hb8.mono s7)
  have cr8 : W8.cell? ⟨v7.heap.size, 0, none⟩ = some (.slice a n c) := by rw [hW8]; simp
  have h48 : Below W4.heap.size W4 W8 := h46.trans (h68.mono (by have := s6.out; omega))
  go_upto_region 9 with fail
  rw [← hW8]
  clear hW8 c0 c1 c2
  obtain ⟨k8, c0, c1, c2, _⟩ := HK4.out W8 h48
  obtain ⟨m0, m1, m2, m3⟩ := HZ6.out W8 h68
  by_cases hp : 0 < n
  · have zp : (0 : Int) < (n : Int) := by omega
    obtain ⟨g7, rfl, rfl, HO8⟩ : ∃ g7, a = some ⟨g7, 0, none⟩ ∧ n = R.length ∧ Hid (OwnE v7 W6.heap.size g7 c R) := by
      rcases HO7.out with ⟨q, _⟩ | ⟨g, cp, q, hO⟩
      · cases q; omega
      · cases q; exact ⟨g, rfl, rfl, hO⟩
    obtain ⟨W9, hW9⟩ : ∃ W9 : World, W9 = W8.alloc (Obj.cells #[.slice (some ⟨g7, 0, none⟩) R.length c] 58) := ⟨_, rfl⟩
    have hb9 : Below W8.heap.size W8 W9 := by rw [hW9]; exact (Below.refl _ _).alloc (Nat.le_refl _) _
    have hz9 : W9.heap.size = W8.heap.size + 1 := by rw [hW9]; simp
    have h69 : Below W6.heap.size W6 W9 := h68.trans (hb9.mono h68.size)
    have k9 : Below Wa.heap.size Wa W9 := k8.trans (hb9.mono k8.size)
    obtain ⟨W10, hW10n⟩ : ∃ W10 : World, W10 = (W8.setCell ⟨v5.heap.size, 1, none⟩ (.slice (some ⟨W8.heap.size, 0, none⟩) 1 1)).alloc (Obj.cells #[.slice (some ⟨g7, 0, none⟩) R.length c] 58) := ⟨_, rfl⟩
    have hW10 : W10 = W9.setCell ⟨v5.heap.size, 1, none⟩ (.slice (some ⟨W8.heap.size, 0, none⟩) 1 1) := by rw [hW10n, hW9]; simp [go_sem, m3]
    have k10 : Below Wa.heap.size Wa W10 := by rw [hW10]; exact k9.setCell s6.out.1 _
    have HIn : Hid (InRms W10 (.slice (some ⟨W8.heap.size, 0, none⟩) 1 1) [⟨g7, 0, c, R⟩]) := by
      have h8 := h68.size
      have h6 := s6.out
      have hO9 : OwnE W9 W6.heap.size g7 c R := (HO8.out.below hb8 HO8.out.lt.2).below hb9 (by have := HO8.out.lt; have := hb8.size; omega)
      have hO10 : OwnE W10 W6.heap.size g7 c R := by rw [hW10]; exact hO9.setNe _ _ _ (by have := hO9.lt; omega)
      refine one_inRms ?_ (by rw [hW10]; simp; omega) hO10
      rw [hW10, World.cell?_setCell_far _ _ _ _ (by show v5.heap.size ≠ W8.heap.size; omega), hW9]; simp
    have HEs : Hid (esM [(⟨g7, 0, c, R⟩ : Rm)] = oneRun L) := by
      show [R] = oneRun L
      unfold oneRun
      have h1 := HL.out.2.2
      have h2 : R.length = L.length := by rw [h1, List.length_map]
      rw [if_neg (by omega), h1]
    have n0 : W10.cell? ⟨v5.heap.size, 0, none⟩ = some (.string t.lo) := by rw [hW10]; simp [go_sem, (HZ6.out W9 h69).1, (HZ6.out W9 h69).2.1]
    have n1 : W10.cell? ⟨v5.heap.size, 1, none⟩ = some (.slice (some ⟨W8.heap.size, 0, none⟩) 1 1) := by rw [hW10]; simp [go_sem, (HZ6.out W9 h69).1, (HZ6.out W9 h69).2.1]
    have n2 := (HWa.out W10 k10).1
    obtain ⟨x0, x1, x2, x3⟩ := HZ6.out W9 h69
    clear hz9
    go_upto_region 11 with fail
    rw [← hW10n]
    clear hW9 hW10 hW10n x0 x1 x2 x3 m0 m1 m2 m3 cr8
    go_wp2_with fail
    refine (HRp.out W10 _ _ _ _ k10 HIn.out HEs.out).mono ?_
    rintro e w9 ⟨g, cp, xs, rfl, q1, q2, hc⟩
    go_wp2_with fail
    exact bodyPost_ret (v := .agg #[.slice (some ⟨g, 0, none⟩) xs.length cp]) (by simp [results, Tryz.results17, go_sem, q1]) rfl hc.out
  · have zp : ¬ (0 : Int) < (n : Int) := by omega
    have HEs : Hid (esM ([] : List Rm) = oneRun L) := by
      show [] = oneRun L
      unfold oneRun
      have h1 := HL.out.2.2
      have h2 : R.length = L.length := by rw [h1, List.length_map]
      have h3 : R.length = 0 := by
        rcases HO7.out with ⟨_, q⟩ | ⟨g, cp, q, hO⟩
        · rw [q]; rfl
        · cases q; omega
      rw [if_pos (by omega)]
    go_wp2_with fail
    refine (HRp.out W8 _ _ _ _ k8 (.inl ⟨_, _, rfl, rfl⟩) HEs.out).mono ?_
    rintro e w9 ⟨g, cp, xs, rfl, q1, q2, hc⟩
    go_wp2_with fail
    exact bodyPost_ret (v := .agg #[.slice (some ⟨g, 0, none⟩) xs.length cp]) (by simp [results, Tryz.results17, go_sem, q1]) rfl hc.out
end Go.Proofs.YtlgeffinhbodeafGreat

/-
  CompactStore at a store that the law has made.
-/
namespace Go.Proofs.YtlgeffinhbodeafGreat
open Go.ChangeShapes Go.WideShapes Go.ChangeAt Go.RowKit Go.Deep
set_option linter.unusedVariables false

theorem implCompact_at {w : World} {base g : Nat} {l : List Tw} {ts : List Tn} (row : ByteArray) (h : OwnTabs w base g l) (hm : l.map Tw.tb = ts.map Tn.tb) (hok : okT ts) (hn : ts.length + totT ts ≤ 1048576) :
    Calls Tryz.prog 17 #[.agg #[.slice (some ⟨g, 0, none⟩) l.length l.length], .string row] w fun e w' => CsIPost w (ts.map Tn.tb) row e w' := by
  have hl : l.length = ts.length := by have := congrArg List.length hm; simpa using this
  have h1 : szB (tbs (l.map Tw.tm)) ≤ 1048576 := by
    rw [tms_tns hm]
    have := szB_tn ts
    omega
  have := implCompact_store g 0 l.length (l.map Tw.tm) row w h.at (ok_tms hm hok h.short) h.lt.2 (by rw [List.length_map]; omega) (by rw [List.length_map]; exact Nat.le_refl _) (by unfold maxLen; omega) (tm_ok h1)
  rw [tms_tns hm, List.length_map] at this
  exact this
theorem specCompact_at {w : World} {base g : Nat} {l : List Tw} {ts : List Tn} (row : ByteArray) (h : OwnTabs w base g l) (hm : l.map Tw.tb = ts.map Tn.tb) (hok : okT ts) (hn : ts.length + totT ts ≤ 1048576) :
    Calls Tryz.prog 16 #[.agg #[.slice (some ⟨g, 0, none⟩) l.length l.length], .string row] w fun e w' => CsSPost w (ts.map Tn.tb) row e w' := by
  have hl : l.length = ts.length := by have := congrArg List.length hm; simpa using this
  have h1 : szB (tbs (l.map Tw.tm)) ≤ 1048576 := by
    rw [tms_tns hm]
    have := szB_tn ts
    omega
  have := specCompact_store g 0 l.length (l.map Tw.tm) row w h.at (ok_tms hm hok h.short) h.lt.2 (by rw [List.length_map]; omega) (tm_ok h1)
  rw [tms_tns hm, List.length_map] at this
  exact this
end Go.Proofs.YtlgeffinhbodeafGreat

/-
  The law FnExactCompactStore.
-/
namespace Go.Proofs.YtlgeffinhbodeafGreat.exCompactStore
open Go.ChangeShapes Go.WideShapes Go.ChangeAt Go.RowKit Go.Deep
open Go.ChangeMaps (open_string shut_string)
set_option linter.unusedVariables false
set_option linter.unusedSimpArgs false
set_option maxRecDepth 100000

theorem own : ownKnob Tryz.prog.godebug = none := by kernel_rfl
theorem laidOut : laidOutB Tryz.prog = true := by kernel_rfl
theorem toStore_in (W0 : World) (u : Value) (ts : List Tn) (w : World) (hb : Below W0.heap.size W0 w) (h : Hid (InTabs W0 u ts)) (h1 : ts.length + totT ts ≤ 1048576) (l0 : List Tw) (hl0 : Hid (l0.map Tw.tb = ts.map Tn.tb)) :
    Calls Tryz.prog 8 #[.agg #[u]] w fun e w' =>
      ∃ (g : Nat) (l : List Tw), e = .returned (.agg #[.slice (some ⟨g, 0, none⟩) l.length l.length]) ∧ Hid (InTabs w' (.slice (some ⟨g, 0, none⟩) l.length l.length) ((l.map Tw.tx).map Tx.tn) ∧ vwT ((l0.map Tw.tx).map Tx.tn) = vwT ((l.map Tw.tx).map Tx.tn)) ∧ Below W0.heap.size W0 w' ∧ (∀ b o, b < W0.heap.size → w'.cell? ⟨b, o, none⟩ = W0.cell? ⟨b, o, none⟩) := by
  refine (toStore_any u ts w (h.out.below hb) h1).mono ?_
  rintro e w' ⟨g, l, he, hO, hm, hb'⟩
  have k := hb.trans (hb'.mono hb.size)
  exact ⟨g, l, he, ⟨hO.st.ins, vwX_eq (by rw [tx_tb, tx_tb, hm, hl0.out])⟩, k, fun b o hlt => k.cell (p := ⟨b, o, none⟩) hlt⟩
theorem eqStore_in (W0 : World) (u u' : Value) (l l' : List Tn) (w : World) (hb : Below W0.heap.size W0 w) (h : Hid (InTabs W0 u l)) (h' : Hid (InTabs w u' l' ∧ vwT l = vwT l')) :
    Calls Tryz.prog 11 #[.agg #[u], .agg #[u']] w fun e w' => e = .returned (.bool true) ∧ Below W0.heap.size W0 w' := by
  refine (eqStore_any u u' l l' w (h.out.below hb) h'.out.1 h'.out.2).mono ?_
  rintro e w' ⟨he, hb'⟩
  exact ⟨he, hb.trans (hb'.mono hb.size)⟩

set_option maxHeartbeats 8000000 in
theorem walk (u : Value) (ts : List Tn) (row : ByteArray) (w : World) (h : InTabs w u ts) (hok : okT ts) (hr : row.size ≤ maxLen) :
    Calls Tryz.prog 4 #[.agg #[u], .string row] w fun e w' => e = .returned (.bool true) ∧ Below w.heap.size w w' := by
  have HE : Hid (InTabs w u ts ∧ okT ts) := ⟨h, hok⟩
  have hu := h.ucells
  unfold maxLen at hr
  clear h hok
  by_cases hbig : 1048576 < row.size
  · have z : (1048576 : Int) < (row.size : Int) := by omega
    go_enter Tryz.func4, Tryz.ntmps4
    go_wp2_with fail
    go_ret
    exact ⟨rfl, (Below.refl _ _).alloc (Nat.le_refl _) _⟩
  have z : ¬ (1048576 : Int) < (row.size : Int) := by omega
  obtain ⟨W0, hW0⟩ : ∃ W0 : World, W0 = w.alloc (Obj.cells #[u] 24) := ⟨_, rfl⟩
  have hb0 : Below w.heap.size w W0 := by rw [hW0]; exact (Below.refl _ _).alloc (Nat.le_refl _) _
  have hz0 : w.heap.size < W0.heap.size := by rw [hW0]; simp
  have HK0 : Hid (∀ wx, Below W0.heap.size W0 wx → wx.cell? ⟨w.heap.size, 0, none⟩ = some u ∧ InTabs wx u ts) := fun wx hx => ⟨by rw [hx.cell (p := ⟨w.heap.size, 0, none⟩) hz0, hW0]; simp, (HE.out.1.below hb0).below hx⟩
  obtain ⟨ca, hI0⟩ := HK0.out W0 (Below.refl _ _)
  have HI0 : Hid (InTabs W0 u ts) := hI0
  clear hI0
  go_enter Tryz.func4, Tryz.ntmps4
  go_upto_region 4 with fail
  rw [← hW0]
  clear hW0
  go_wp2_with fail
  refine (szStore_any u ts _ _ HI0.out HE.out.2 (by omega) (by omega)).mono ?_
  rintro e w1 ⟨x, rfl, hx, hb1⟩
  have hs1 := hb1.size
  by_cases hx0 : x < 0
  · clear hx
    go_wp2_with fail
    go_ret
    exact ⟨rfl, hb0.trans (hb1.mono (by omega))⟩
  have hn : ts.length + totT ts ≤ 1048576 := by omega
  clear hx ca
  obtain ⟨ca, hI1⟩ := HK0.out w1 hb1
  have HI1 : Hid (InTabs w1 u ts) := hI1
  clear hI1
  go_wp2_with fail
  refine (toStore_any u ts _ HI1.out hn).mono ?_
  rintro e w2 ⟨g1, l1, rfl, hO1, hm1, hb2⟩
  have HO1 : Hid (OwnTabs w2 w1.heap.size g1 l1 ∧ l1.map Tw.tb = ts.map Tn.tb) := ⟨hO1, hm1⟩
  have k02 : Below W0.heap.size W0 w2 := hb1.trans (hb2.mono hs1)
  have s2 := k02.size
  clear hO1 hm1 hb2
  go_wp2_with fail
  refine (specCompact_at row HO1.out.1 HO1.out.2 HE.out.2 hn).mono ?_
  rintro e w3 ⟨out, hM, v0, xs0, rfl, hS0, hxo, hb3⟩
  obtain ⟨va, vn, vc, rfl⟩ : ∃ va vn vc, v0 = .slice va vn vc := by
    rcases hS0.row with ⟨_, a, c, q⟩ | ⟨g, cp, q, _⟩ <;> exact ⟨_, _, _, q⟩
  have k03 : Below W0.heap.size W0 w3 := k02.trans (hb3.mono s2)
  have s3 := k03.size
  obtain ⟨W3, hW3⟩ : ∃ W3 : World, W3 = w3.alloc (Obj.cells #[.slice va vn vc] 30) := ⟨_, rfl⟩
  have hbW3 : Below w3.heap.size w3 W3 := by rw [hW3]; exact (Below.refl _ _).alloc (Nat.le_refl _) _
  have hz3 : W3.heap.size = w3.heap.size + 1 := by rw [hW3]; simp
  have k0W3 : Below W0.heap.size W0 W3 := k03.trans (hbW3.mono s3)
  -- what spec answers, in every world to come
  have HS0 : Hid ((∀ wx, Below W3.heap.size W3 wx → wx.cell? ⟨w3.heap.size, 0, none⟩ = some (.slice va vn vc) ∧ InTabs wx (.slice va vn vc) (xs0.map Tx.tn)) ∧ CmsT (ts.map Tn.tb) row out ∧ xs0.map Tx.tb = out) := ⟨fun wx hx => ⟨by rw [hx.cell (p := ⟨w3.heap.size, 0, none⟩) (by show w3.heap.size < W3.heap.size; omega), hW3]; simp, ((hS0.below hbW3).below hx).ins⟩, hM, hxo⟩
  clear hS0 hM hxo hb3 ca
  obtain ⟨ca, hI3⟩ := HK0.out W3 k0W3
  have HI3 : Hid (InTabs W3 u ts) := hI3
  clear hI3
  go_upto_region 8 with fail
  rw [← hW3]
  clear hW3
  go_wp2_with fail
  refine (toStore_any u ts _ HI3.out hn).mono ?_
  rintro e w4 ⟨g2, l2, rfl, hO2, hm2, hb4⟩
  have s4 := hb4.size
  obtain ⟨W4, hW4⟩ : ∃ W4 : World, W4 = w4.alloc (Obj.cells #[.slice (some ⟨g2, 0, none⟩) l2.length l2.length] 30) := ⟨_, rfl⟩
  have hbW4 : Below w4.heap.size w4 W4 := by rw [hW4]; exact (Below.refl _ _).alloc (Nat.le_refl _) _
  have hz4 : W4.heap.size = w4.heap.size + 1 := by rw [hW4]; simp
  have k34 : Below W3.heap.size W3 W4 := hb4.trans (hbW4.mono s4)
  have HX : Hid (OwnTabs w4 W3.heap.size g2 l2 ∧ OwnTabs W4 W3.heap.size g2 l2 ∧ l2.map Tw.tb = ts.map Tn.tb ∧ ∀ wx, Below W4.heap.size W4 wx → wx.cell? ⟨w4.heap.size, 0, none⟩ = some (.slice (some ⟨g2, 0, none⟩) l2.length l2.length)) := ⟨hO2, hO2.below hbW4, hm2, fun wx hx => by rw [hx.cell (p := ⟨w4.heap.size, 0, none⟩) (by show w4.heap.size < W4.heap.size; omega), hW4]; simp⟩
  clear hO2 hm2 hb4 ca
  have cx := HX.out.2.2.2 W4 (Below.refl _ _)
  go_upto_region 9 with fail
  rw [← hW4]
  clear hW4
  go_wp2_with fail
  refine (implCompact_at row HX.out.2.1 HX.out.2.2.1 HE.out.2 hn).mono ?_
  rintro e w5 ⟨out', hM', gg, cpp, xs, rfl, hS5, hA5, hx5, hb5⟩
  have s5 := hb5.size
  obtain ⟨W5, hW5⟩ : ∃ W5 : World, W5 = w5.alloc (Obj.cells #[.slice (some ⟨gg, 0, none⟩) xs.length cpp] 30) := ⟨_, rfl⟩
  have hbW5 : Below w5.heap.size w5 W5 := by rw [hW5]; exact (Below.refl _ _).alloc (Nat.le_refl _) _
  have hz5 : W5.heap.size = w5.heap.size + 1 := by rw [hW5]; simp
  have k45 : Below W4.heap.size W4 W5 := hb5.trans (hbW5.mono s5)
  have k35 : Below W3.heap.size W3 W5 := k34.trans (k45.mono (by omega))
  have HG : Hid (OwnSt W5 W4.heap.size (.slice (some ⟨gg, 0, none⟩) xs.length cpp) xs ∧ (∀ k, KeysT (.slice (some ⟨gg, 0, none⟩) xs.length cpp) xs k → W4.heap.size ≤ k ∧ k < w5.heap.size) ∧ ApartT xs ∧ xs.map Tx.tb = out ∧ szB (xs.map Tx.tb) ≤ 1048576 ∧ xs.length ≤ 1048576) := by
    have e1 : out' = out := cmsT_uniq hM' HS0.out.2.1
    obtain ⟨b1, b2⟩ := cmsT_sz hM'
    have b3 := szB_tn ts
    have b4 := congrArg List.length hx5
    simp at b4 b2
    refine ⟨hS5.below hbW5, fun k hk => hS5.key hk, hA5, by rw [hx5, e1], by rw [hx5]; omega, by omega⟩
  have HCg : Hid (∀ wx, Below W5.heap.size W5 wx → wx.cell? ⟨w5.heap.size, 0, none⟩ = some (.slice (some ⟨gg, 0, none⟩) xs.length cpp)) := fun wx hx => by rw [hx.cell (p := ⟨w5.heap.size, 0, none⟩) (by show w5.heap.size < W5.heap.size; omega), hW5]; simp
  clear hS5 hA5 hx5 hM' hb5 cx
  have cg := HCg.out W5 (Below.refl _ _)
  obtain ⟨cw, hw5⟩ := HS0.out.1 W5 k35
  have HI5 : Hid (InTabs W5 (.slice va vn vc) (xs0.map Tx.tn)) := hw5
  clear hw5
  have HV : Hid (vwT (xs.map Tx.tn) = vwT (xs0.map Tx.tn)) := vwX_eq (by rw [HG.out.2.2.2.1, HS0.out.2.2])
  go_upto_region 10 with fail
  rw [← hW5]
  clear hW5
  go_wp2_with fail
  refine (eqStore_any _ _ _ _ _ HG.out.1.ins HI5.out HV.out).mono ?_
  rintro e w6 ⟨rfl, hb6⟩
  have s6 := hb6.size
  have k46 : Below W4.heap.size W4 w6 := k45.trans (hb6.mono (by omega))
  have k36 : Below W3.heap.size W3 w6 := k35.trans (hb6.mono (by omega))
  have k06 : Below W0.heap.size W0 w6 := k0W3.trans (k36.mono k0W3.size)
  clear cg cw
  have cx6 := HX.out.2.2.2 w6 k46
  obtain ⟨ca6, hI6⟩ := HK0.out w6 k06
  have HI6 : Hid (InTabs w6 u ts) := hI6
  clear hI6
  go_upto_region 12 with fail
  go_cut [38] (fun s wx => s = .bool false ∧ Below w6.heap.size w6 wx)
  case first =>
    have hz6 : w4.heap.size < w6.heap.size := by omega
    have hza : w.heap.size < w6.heap.size := by have := k06.size; omega
    have HX6 : Hid (InTabs w6 (.slice (some ⟨g2, 0, none⟩) l2.length l2.length) ((l2.map Tw.tx).map Tx.tn)) := (HX.out.2.1.st.below k46).ins
    have HM2 : Hid (l2.map Tw.tb = ts.map Tn.tb) := HX.out.2.2.1
    go_region_with (first
      | (go_at_call 8; refine (toStore_in w6 u ts _ ?hB HI6 hn l2 HM2).mono ?_; (case hB => (repeat (first | assumption | exact Below.refl _ _ | refine Below.drew ?_))); rintro e w' ⟨g3, l3, rfl, HG3, hbb, hcc⟩)
      | (go_at_call 11; refine (eqStore_in w6 _ _ ((l2.map Tw.tx).map Tx.tn) ((l3.map Tw.tx).map Tx.tn) _ ?hB HX6 ?hC).mono ?_; (case hB => (repeat (first | assumption | exact Below.refl _ _ | refine Below.drew ?_))); (case hC => assumption); rintro e w' ⟨rfl, hbb2⟩))
    all_goals go_wp2_with fail
    all_goals go_meet
    all_goals exact ⟨rfl, by assumption⟩
  case rest =>
  obtain ⟨rfl, h7⟩ := hcut
  have s7 := h7.size
  have k47 : Below W4.heap.size W4 wc := k46.trans (h7.mono (by have := k46.size; omega))
  have k57 : Below W5.heap.size W5 wc := hb6.trans (h7.mono s6)
  have k37 : Below W3.heap.size W3 wc := k36.trans (h7.mono (by have := k36.size; omega))
  have HT7 : Hid (OwnSt wc W3.heap.size (.slice (some ⟨g2, 0, none⟩) l2.length l2.length) (l2.map Tw.tx) ∧ ApartT (l2.map Tw.tx) ∧ szB ((l2.map Tw.tx).map Tx.tb) ≤ 1048576 ∧ (l2.map Tw.tx).length ≤ 1048576 ∧ (∀ k, KeysT (.slice (some ⟨g2, 0, none⟩) l2.length l2.length) (l2.map Tw.tx) k → W3.heap.size ≤ k ∧ k < w4.heap.size)) := by
    have b3 := szB_tn ts
    have b4 := congrArg List.length HX.out.2.2.1
    simp at b4
    refine ⟨(HX.out.2.1.st.below k47), HX.out.2.1.apart, by rw [tx_tb, HX.out.2.2.1]; omega, by rw [List.length_map]; omega, fun k hk => HX.out.1.st.key hk⟩
  obtain ⟨tx, htx⟩ : ∃ tx, tx = totX (l2.map Tw.tx) := ⟨_, rfl⟩
  have htx1 : tx ≤ 8388608 := by
    have q1 := totX_sz (l2.map Tw.tx)
    have q2 := HT7.out.2.2.1
    have q3 := HT7.out.2.2.2.1
    rw [htx]; omega
  have HTX : Hid (tx = totX (l2.map Tw.tx)) := htx
  clear htx cx6 ca6
  have cx7 := HX.out.2.2.2 wc k47
  go_upto_region 15 with fail
  go_wp2_with fail
  refine (markStore_gen W3.heap.size _ _ 1 _ HT7.out.1 HT7.out.2.1 (by omega) (by rw [← HTX.out]; omega) (tx_ok HT7.out.2.2.1) HT7.out.2.2.2.1).mono ?_
  rintro e w8 ⟨ts8, rfl, _, _, _, hC8⟩
  rw [← HTX.out]
  have s8 := hC8.size
  have k38 : Below W3.heap.size W3 w8 := Chg.below k37 hC8 k37.size (fun k q => (HT7.out.2.2.2.2 k q).1)
  have HG8 : Hid (OwnSt w8 W4.heap.size (.slice (some ⟨gg, 0, none⟩) xs.length cpp) xs) := (HG.out.1.below k57).chg hC8 (fun k q1 q2 q3 => by have := (HT7.out.2.2.2.2 k q3).2; omega)
  have cg8 : w8.cell? ⟨w5.heap.size, 0, none⟩ = some (.slice (some ⟨gg, 0, none⟩) xs.length cpp) := by
    rw [hC8.cell (p := ⟨w5.heap.size, 0, none⟩) (by show w5.heap.size < wc.heap.size; omega) (fun q => by have := (HT7.out.2.2.2.2 _ q).2; simp only at this; omega)]; exact HCg.out wc k57
  obtain ⟨cw8, hw8⟩ := HS0.out.1 w8 k38
  have HI8 : Hid (InTabs w8 (.slice va vn vc) (xs0.map Tx.tn)) := hw8
  clear hw8 cx7 hC8
  have zk : ¬ (1 : Int) + (tx : Int) < 0 := by omega
  have hd : decide ((1 : Int) + (tx : Int) < 0) = false := decide_eq_false zk
  go_wp2_with fail
  refine (eqStore_any _ _ _ _ _ HG8.out.ins HI8.out HV.out).mono ?_
  rintro e w9 ⟨rfl, hb9⟩
  have s9 := hb9.size
  have k39 : Below W3.heap.size W3 w9 := k38.trans (hb9.mono k38.size)
  have cg9 : w9.cell? ⟨w5.heap.size, 0, none⟩ = some (.slice (some ⟨gg, 0, none⟩) xs.length cpp) := by rw [hb9.cell (p := ⟨w5.heap.size, 0, none⟩) (by show w5.heap.size < w8.heap.size; omega)]; exact cg8
  have HG9 : Hid (OwnSt w9 W4.heap.size (.slice (some ⟨gg, 0, none⟩) xs.length cpp) xs) := HG8.out.below hb9
  obtain ⟨tg, htg⟩ : ∃ tg, tg = totX xs := ⟨_, rfl⟩
  have htg1 : tg ≤ 8388608 := by
    have q1 := totX_sz xs
    have q2 := HG.out.2.2.2.2.1
    have q3 := HG.out.2.2.2.2.2
    rw [htg]; omega
  have HTG : Hid (tg = totX xs) := htg
  clear htg cg8 cw8
  go_upto_region 19 with fail
  go_wp2_with fail
  refine (markStore_gen W4.heap.size _ _ 1 _ HG9.out HG.out.2.2.1 (by omega) (by rw [← HTG.out]; omega) (tx_ok HG.out.2.2.2.2.1) HG.out.2.2.2.2.2).mono ?_
  rintro e w10 ⟨ts10, rfl, hsh, hS10, hmk, hC10⟩
  rw [← HTG.out]
  have s10 := hC10.size
  have k310 : Below W3.heap.size W3 w10 := Chg.below k39 hC10 k39.size (fun k q => by have := (HG.out.2.1 k q).1; omega)
  have cg10 : w10.cell? ⟨w5.heap.size, 0, none⟩ = some (.slice (some ⟨gg, 0, none⟩) xs.length cpp) := by
    rw [hC10.cell (p := ⟨w5.heap.size, 0, none⟩) (by show w5.heap.size < w9.heap.size; omega) (fun q => by have := (HG.out.2.1 _ q).2; simp only at this; omega)]; exact cg9
  have HG10 : Hid (OwnSt w10 W4.heap.size (.slice (some ⟨gg, 0, none⟩) xs.length cpp) ts10 ∧ MarkedT 1 ts10 ∧ totX ts10 = tg ∧ (∀ t ∈ ts10, totW t.rs ≤ 1048576 ∧ t.rs.length ≤ 1048576) ∧ ts10.length ≤ 1048576) := by
    have q1 := congrArg List.length hsh
    simp at q1
    refine ⟨hS10, hmk, by rw [shpT_tot hsh]; exact HTG.out.symm, shpT_ok hsh (tx_ok HG.out.2.2.2.2.1), by have := HG.out.2.2.2.2.2; omega⟩
  clear hsh hS10 hmk hC10 cg9
  go_upto_region 21 with fail
  go_wp2_with fail
  refine (heldStore_gen W4.heap.size _ ts10 1 _ HG10.out.1 HG10.out.2.1 (by omega) (by rw [HG10.out.2.2.1]; omega) HG10.out.2.2.2.1 HG10.out.2.2.2.2).mono ?_
  rintro e w11 ⟨rfl, hb11⟩
  rw [HG10.out.2.2.1]
  have k311 : Below W3.heap.size W3 w11 := k310.trans (hb11.mono k310.size)
  have k011 : Below W0.heap.size W0 w11 := k0W3.trans (k311.mono k0W3.size)
  obtain ⟨ca11, hI11⟩ := HK0.out w11 k011
  have HI11 : Hid (InTabs w11 u ts) := hI11
  clear hI11 cg10
  have zq : ¬ (1 : Int) + (tg : Int) < 0 := by omega
  go_wp2_with fail
  refine (toStore_any u ts _ HI11.out hn).mono ?_
  rintro e w12 ⟨g3, l3, rfl, hO3, hm3, hb12⟩
  have k312 : Below W3.heap.size W3 w12 := k311.trans (hb12.mono k311.size)
  have HO3 : Hid (OwnTabs w12 w11.heap.size g3 l3 ∧ l3.map Tw.tb = ts.map Tn.tb) := ⟨hO3, hm3⟩
  clear hO3 hm3
  go_wp2_with fail
  refine (implCompact_at row HO3.out.1 HO3.out.2 HE.out.2 hn).mono ?_
  rintro e w13 ⟨out', hM', gh, cph, ys, rfl, hS13, _, hx13, hb13⟩
  have k313 : Below W3.heap.size W3 w13 := k312.trans (hb13.mono k312.size)
  obtain ⟨W14, hW14⟩ : ∃ W14 : World, W14 = w13.alloc (Obj.cells #[.slice (some ⟨gh, 0, none⟩) ys.length cph] 30) := ⟨_, rfl⟩
  have hbW14 : Below w13.heap.size w13 W14 := by rw [hW14]; exact (Below.refl _ _).alloc (Nat.le_refl _) _
  have k314 : Below W3.heap.size W3 W14 := k313.trans (hbW14.mono k313.size)
  have HH : Hid (InTabs W14 (.slice (some ⟨gh, 0, none⟩) ys.length cph) (ys.map Tx.tn) ∧ vwT (ys.map Tx.tn) = vwT (xs0.map Tx.tn)) := ⟨(hS13.below hbW14).ins, vwX_eq (by rw [hx13, HS0.out.2.2]; exact cmsT_uniq hM' HS0.out.2.1)⟩
  have ch : W14.cell? ⟨w13.heap.size, 0, none⟩ = some (.slice (some ⟨gh, 0, none⟩) ys.length cph) := by rw [hW14]; simp
  obtain ⟨cw14, hw14⟩ := HS0.out.1 W14 k314
  have HI14 : Hid (InTabs W14 (.slice va vn vc) (xs0.map Tx.tn)) := hw14
  clear hw14 hS13 hx13 hM' ca11
  go_upto_region 27 with fail
  rw [← hW14]
  clear hW14
  go_wp2_with fail
  refine (eqStore_any _ _ _ _ _ HH.out.1 HI14.out HH.out.2).mono ?_
  rintro e w15 ⟨rfl, hb15⟩
  have k315 : Below W3.heap.size W3 w15 := k314.trans (hb15.mono k314.size)
  go_wp2_with fail
  go_ret
  exact ⟨rfl, (hb0.trans (k0W3.mono (by omega))).trans (k315.mono (by have := k0W3.size; omega))⟩

theorem lifted (os : Os) (started : os.Started) (H : Type) (enc : TypeId × Value → H) :
    ReturnsInHanded {} Tryz.checked os 4 .any (Rows.fnExactCompactStoreSpec.pre6 enc Tryz.prog Tryz.f4 Rows.fnExactCompactStoreRow.domain false) (Rows.fnExactCompactStoreSpec.post enc Tryz.prog Tryz.f4 false true false false) := by
  refine returnsInHanded_of_change (C := Tryz.checked) own started (by kernel_rfl) Tryz.func4
    (ChangeSpec.witness6 (enc := enc) (C := Tryz.checked) false ⟨#[], #[.agg #[.slice none 0 0], .string ⟨#[]⟩], []⟩ 8 (by kernel_rfl) (by kernel_rfl) (by kernel_rfl) (by kernel_rfl)) ?_
  intro W base args ds gs before hval0 hW hcnd _
  have hval : ∀ (j : Nat) t v, Tryz.f4.params[j]? = some t → args[j]? = some v → Value.okWide Tryz.prog W .any base t v := hval0
  have hW' := hW
  obtain ⟨p, q, hA0, hV, rfl, hfz, hnd⟩ := hW
  have hA : DataW.TrodAll enc Tryz.prog W 0 (fun _ => true) true Tryz.f4.params.toList args.toList ds p := hA0
  rw [Tryz.params4] at hA hval
  obtain ⟨v0, vs0, d0, ds0, p0, q0, hargs, rfl, rfl, h0, r0⟩ := trodAll_cons hA
  obtain ⟨v1, vs1, d1, ds1, p1, q1, rfl, rfl, rfl, h1, r1⟩ := trodAll_cons r0
  obtain ⟨rfl, rfl, rfl⟩ := trodAll_nil r1
  obtain rfl : args = #[v0, v1] := by cases args; simp_all
  obtain ⟨rfl, rfl⟩ := trodVars_none hV
  have k0 := h0
  have lt0 : ∀ x ∈ p0, x.block < W.heap.size := by obtain ⟨m, hm⟩ := k0; exact DataW.trod_lt m _ _ _ hm
  obtain ⟨u, ts, rfl, hin, ok0⟩ := open_store (hval 0 24 v0 rfl rfl) h0
  have k1 := h1
  have lt1 : ∀ x ∈ p1, x.block < W.heap.size := by obtain ⟨m, hm⟩ := k1; exact DataW.trod_lt m _ _ _ hm
  obtain ⟨s, rfl, _, _, hs⟩ := open_string Tryz.underlying9 (hval 1 9 v1 rfl rfl) h1
  clear hA0 hval0
  refine (walk u ts s W hin ok0 hs).mono fun e W' ⟨he, bel⟩ => ?_
  subst he
  exact ⟨_, rfl, _, _, _, [], _, [], hW', trodAll_mk1 (shut_bool Tryz.underlying4 _), (trodAll_cons_mk (Below.trod laidOut (by kernel_rfl) (of_decide_eq_true (by kernel_rfl)) k0 bel lt0) (trodAll_cons_mk (Below.trod laidOut (by kernel_rfl) (of_decide_eq_true (by kernel_rfl)) k1 bel lt1) trodAll_mk0)), rfl, bel.frame _, fun h => by cases h⟩

theorem over : Rows.fnExactCompactStoreRow.holds Tryz.pinned (OpenSpec.ofChange Rows.fnExactCompactStoreSpec) :=
  OpenClaim.holds_of_wide 4 Tryz.f4 rfl rfl rfl rfl rfl rfl rfl ⟨rfl, rfl, rfl, rfl, rfl⟩ rfl rfl rfl rfl rfl (by kernel_rfl) Tryz.func4 (by kernel_rfl)
    (of_decide_eq_true (by kernel_rfl)) (by unfold Func.isWrapper; first | (rw [if_pos (by decide +kernel)]; kernel_rfl) | (rw [if_neg (by decide +kernel)]; exact ⟨rfl, rfl⟩))
    (fun os started H enc _ => lifted os started H enc)

end Go.Proofs.YtlgeffinhbodeafGreat.exCompactStore
namespace Go.Proofs.YtlgeffinhbodeafGreat
theorem exactCompactStore_holds : Rows.FnExactCompactStoreSaid := exCompactStore.over
#print axioms exactCompactStore_holds
end Go.Proofs.YtlgeffinhbodeafGreat

