import Derived.Deep.DeepCutAuto
import Derived.Test.YtlgeffinhbodeafPkAI
import Derived.Test.YtlgeffinhbodeafPkAJ
/-
  impl.SplitStore.
-/
namespace Go.Proofs.Ytlgeffinhbodeaf
open Go.ChangeShapes Go.WideShapes Go.ChangeAt Go.RowKit Go.Deep
set_option linter.unusedVariables false
set_option linter.unusedSimpArgs false
set_option maxRecDepth 100000

theorem szR_keep (lo hi : ByteArray) (hh : Bool) : ∀ (rs : List (List Ent)), szR (keepP lo hh hi rs) ≤ szR rs
  | [] => Nat.le_refl _
  | e :: rs => by
    have h1 := szR_keep lo hi hh rs
    have h2 : (inP lo hh hi e).length ≤ e.length := List.length_filter_le _ _
    unfold keepP at h1 ⊢
    rw [List.map_cons, List.filter_cons]
    split
    · simp only [szR]; omega
    · simp only [szR]; omega
/-- What SplitStore of impl hands back. -/
def SpIPost (w : World) (tb : List Tb) (row : ByteArray) (e : Ending) (w' : World) : Prop := ∃ out, SplT tb row out ∧ CpIPost w out e w'
theorem PartsO.set {w : World} {base B : Nat} {v : Value} {ps : List Rm} {ess : List (List Ent)} (h : PartsO w base B v ps ess) (g o : Nat) (u : Value) (hlt : g < base) (hB : B ≤ g) : PartsO (w.setCell ⟨g, o, none⟩ u) base B v ps ess :=
  ⟨row_set h.row g o u hlt, fun p hp => by
    obtain ⟨k2, k3⟩ := h.ents p hp
    have hr : p.b ≠ g := by omega
    refine ⟨⟨fun j e he => ?_, by simpa using k2.lt, k2.len, k2.cap⟩, k3⟩
    obtain ⟨q0, q1, q2, q3, q4, q5⟩ := k2.ents j e he
    refine ⟨?_, ?_, ?_, ?_, ?_, ?_⟩
    all_goals rw [World.cell?_setCell_far _ _ _ _ (by exact fun q => hr q.symm)]
    · exact q0
    · exact q1
    · exact q2
    · exact q3
    · exact q4
    · exact q5, h.same⟩
theorem PartsO.inn {w : World} {base B : Nat} {v : Value} {ps : List Rm} {ess : List (List Ent)} (h : PartsO w base B v ps ess) : InRms w v ps := by
  have h1 := h.row
  rw [List.length_map] at h1
  exact inRms_cat h1 (fun r hr => (h.ents r hr).1)
theorem PartsO.small {w : World} {base B : Nat} {v : Value} {ps l : List Rm} {lo hi : ByteArray} {hh : Bool} (h : PartsO w base B v ps (keepP lo hh hi (esM l))) (hl : l.length + totM l ≤ 1048576) : ps.length ≤ 1048576 ∧ totM ps ≤ 1048576 := by
  have h1 := szR_totM ps
  have h2 := szR_totM l
  have h3 := szR_keep lo hi hh (esM l)
  rw [h.same] at h1
  omega
set_option maxHeartbeats 8000000 in
theorem implSplit_store (b off cap : Nat) (ts : List Tm) (row : ByteArray) (w : World) (h : TmsAt w b off ts) (hok : okTs ts) (hB : b < w.heap.size) (hn : ts.length ≤ 1048576) (hrs : row.size ≤ 1048576) (hcap : ts.length ≤ cap) (hcm : cap ≤ maxLen) (hs : ∀ t ∈ ts, t.l.length + totM t.l ≤ 1048576) :
    Calls Try.prog 8 #[.agg #[.slice (some ⟨b, off, none⟩) ts.length cap], .string row] w fun e w' => SpIPost w (tbs ts) row e w' := by
  obtain ⟨Wa, hWa⟩ : ∃ Wa : World, Wa = (w.alloc (Obj.cells #[.slice (some ⟨b, off, none⟩) ts.length cap] 28)).alloc (Obj.cells #[.slice none 0 0] 28) := ⟨_, rfl⟩
  have hba : Below w.heap.size w Wa := by rw [hWa]; exact ((Below.refl _ _).alloc (Nat.le_refl _) _).alloc (by simp) _
  have hza : Wa.heap.size = w.heap.size + 1 + 1 := by rw [hWa]; simp
  have HWa : Hid (∀ wx, Below Wa.heap.size Wa wx → wx.cell? ⟨w.heap.size, 0, none⟩ = some (.slice (some ⟨b, off, none⟩) ts.length cap) ∧ wx.cell? ⟨w.heap.size + 1, 0, none⟩ = some (.slice none 0 0) ∧ wx.frozen? ⟨w.heap.size + 1, 0, none⟩ = false ∧ TmsAt wx b off ts ∧ b < wx.heap.size) := by
    intro wx hx
    have sx := hx.size
    refine ⟨?_, ?_, ?_, (h.below hba hB).below hx (by omega), by omega⟩
    · rw [hx.cell (p := ⟨w.heap.size, 0, none⟩) (by show w.heap.size < Wa.heap.size; omega), hWa]; simp [go_sem]
    · rw [hx.cell (p := ⟨w.heap.size + 1, 0, none⟩) (by show w.heap.size + 1 < Wa.heap.size; omega), hWa]; simp [go_sem]
    · rw [hx.frozen (p := ⟨w.heap.size + 1, 0, none⟩) (by show w.heap.size + 1 < Wa.heap.size; omega), hWa]; simp [go_sem]
  have HS : Hid (okTs ts ∧ ∀ t ∈ ts, t.l.length + totM t.l ≤ 1048576) := ⟨hok, hs⟩
  have HSy : Hid (∀ t ∈ ts.map Tm.ty, t.l.length ≤ 1048576 ∧ totM t.l ≤ 1048576) := by
    intro t ht
    obtain ⟨u, hu, rfl⟩ := List.mem_map.1 ht
    have := hs u hu
    exact ⟨by show u.l.length ≤ 1048576; omega, by show totM u.l ≤ 1048576; omega⟩
  -- a copy of the store as it came
  have HCp : Hid (∀ W, Below Wa.heap.size Wa W → Calls Try.prog 29 #[.agg #[.slice (some ⟨b, off, none⟩) ts.length cap]] W fun e w' => ∃ (g cp : Nat) (xs : List Tx), e = .returned (.agg #[.slice (some ⟨g, 0, none⟩) xs.length cp]) ∧ w'.cell? ⟨w.heap.size + 1, 0, none⟩ = some (.slice none 0 0) ∧ w'.frozen? ⟨w.heap.size + 1, 0, none⟩ = false ∧ Hid (CpIPost w (tbs ts) (.returned (.agg #[.slice (some ⟨g, 0, none⟩) xs.length cp])) (w'.setCell ⟨w.heap.size + 1, 0, none⟩ (.slice (some ⟨g, 0, none⟩) xs.length cp)))) := by
    intro W hW
    obtain ⟨_, _, _, hT, hb'⟩ := HWa.out W hW
    have := implCopied_core b off cap (ts.map Tm.ty) W hT.tys hb' (by rw [List.length_map]; exact hn) HSy.out
    rw [List.length_map, tms_ty] at this
    refine this.mono ?_
    intro e w3 hp
    have sW := hW.size
    obtain ⟨g, cp, xs, rfl, hb3, hc⟩ := copy_in (w := w) (w.heap.size + 1) (hba.trans (hW.mono (by omega))) (by omega) (by omega) hp
    obtain ⟨_, q1, q2, _⟩ := HWa.out w3 (hW.trans (hb3.mono sW))
    exact ⟨g, cp, xs, rfl, q1, q2, hc⟩
  unfold maxLen at hcm
  clear h hok hs
  obtain ⟨c0, _, _, hT0, hB0⟩ := HWa.out Wa (Below.refl _ _)
  have HT0 : Hid (TmsAt Wa b off ts) := hT0
  clear hT0
  go_enter Try.func8, Try.ntmps8
  go_upto_region 1 with fail
  rw [← hWa]
  clear hWa
  go_wp2_with fail
  refine (implValidStore_core b off cap ts _ HT0.out HS.out.1 hB0 hn).mono ?_
  rintro e w1 ⟨r, rfl, hr, hb1⟩
  have HR : Hid (r = true ↔ GoodS (tbs ts)) := hr
  have s1 := hb1.size
  clear hr c0
  obtain ⟨c0, _, _, hT1, hB1⟩ := HWa.out w1 hb1
  have HT1 : Hid (TmsAt w1 b off ts) := hT1
  clear hT1
  cases r
  · have H : Hid (SplT (tbs ts) row (tbs ts)) := splT_bad (fun q => Bool.noConfusion (HR.out.2 q))
    go_wp2_with fail
    refine (HCp.out _ hb1).mono ?_
    rintro e w3 ⟨g, cp, xs, rfl, q1, q2, hc⟩
    go_wp2_with fail
    exact bodyPost_ret (v := .agg #[.slice (some ⟨g, 0, none⟩) xs.length cp]) (by simp [results, Try.results8, go_sem, q1]) rfl ⟨_, H.out, hc.out⟩
  have HG : Hid (GoodS (tbs ts)) := HR.out.1 rfl
  have hn100 : ts.length ≤ 100 := by have := HG.out.le; rw [tbs_len] at this; exact this
  have z2n : (¬ ts.length = 100) → ¬ (ts.length : Int) = 100 := fun q => by omega
  by_cases hr64 : 64 < row.size
  · have H : Hid (SplT (tbs ts) row (tbs ts)) := splT_long hr64
    have z1 : (64 : Int) < (row.size : Int) := by omega
    go_wp2_with fail
    refine (HCp.out _ hb1).mono ?_
    rintro e w3 ⟨g, cp, xs, rfl, q1, q2, hc⟩
    go_wp2_with fail
    exact bodyPost_ret (v := .agg #[.slice (some ⟨g, 0, none⟩) xs.length cp]) (by simp [results, Try.results8, go_sem, q1]) rfl ⟨_, H.out, hc.out⟩
  have z1 : ¬ (64 : Int) < (row.size : Int) := by omega
  by_cases hf : ts.length = 100
  · have H : Hid (SplT (tbs ts) row (tbs ts)) := splT_full (by rw [tbs_len]; exact hf)
    have z2 : ((ts.length : Int) == 100) = true := by rw [beq_iff_eq]; omega
    clear hf
    go_wp2_with fail
    refine (HCp.out _ hb1).mono ?_
    rintro e w3 ⟨g, cp, xs, rfl, q1, q2, hc⟩
    go_wp2_with fail
    exact bodyPost_ret (v := .agg #[.slice (some ⟨g, 0, none⟩) xs.length cp]) (by simp [results, Try.results8, go_sem, q1]) rfl ⟨_, H.out, hc.out⟩
  have z2 : ((ts.length : Int) == 100) = false := by rw [beq_eq_false_iff_ne]; omega
  have HF : Hid (¬ ts.length = 100) := hf
  have z2c : ¬ (ts.length : Int) = 100 := z2n hf
  obtain ⟨i, hi⟩ := hold_ex HG.out row
  have HI : Hid (HoldAt (tbs ts) row i) := hi
  have hil : i < ts.length := by have := hi.1; rw [tbs_len] at this; exact this
  clear hi
  go_wp2_with fail
  refine (implHolder_core b off cap ts row i _ HT1.out hB1 hn HG.out HI.out).mono ?_
  rintro e w2 ⟨rfl, hb2'⟩
  have hb2 : Below Wa.heap.size Wa w2 := hb1.trans (hb2'.mono s1)
  have s2 := hb2.size
  clear hb2' c0
  obtain ⟨c0, _, _, hT2, hB2⟩ := HWa.out w2 hb2
  obtain ⟨t, ht⟩ : ∃ t, ts[i]? = some t := ⟨_, List.getElem?_eq_getElem hil⟩
  obtain ⟨c1, c2, _⟩ := hT2 i t ht
  have HTN : Hid (ts[i]? = some t) := ht
  have HTb : Hid ((tbs ts)[i]? = some t.tb) := by
    show (tbs ts)[i]? = some t.tb
    rw [tbs_get, ht]; rfl
  have htl : t.l.length ≤ 1048576 := by have := HS.out.2 t (List.mem_of_getElem? ht); omega
  clear ht hT2
  have zi : (i : Int) < (ts.length : Int) := by omega
  obtain ⟨W4, hW4⟩ : ∃ W4 : World, W4 = w2.alloc (Obj.cells #[.string t.lo, .slice (some ⟨t.b, t.off, none⟩) t.l.length t.cap] 60) := ⟨_, rfl⟩
  have hbW4 : Below w2.heap.size w2 W4 := by rw [hW4]; exact (Below.refl _ _).alloc (Nat.le_refl _) _
  have hz4 : W4.heap.size = w2.heap.size + 1 := by rw [hW4]; simp
  have k4 : Below Wa.heap.size Wa W4 := hb2.trans (hbW4.mono s2)
  have HK4 : Hid (∀ wx, Below W4.heap.size W4 wx → Below Wa.heap.size Wa wx ∧ wx.cell? ⟨w.heap.size, 0, none⟩ = some (.slice (some ⟨b, off, none⟩) ts.length cap) ∧ wx.cell? ⟨w2.heap.size, 0, none⟩ = some (.string t.lo) ∧ wx.cell? ⟨w2.heap.size, 1, none⟩ = some (.slice (some ⟨t.b, t.off, none⟩) t.l.length t.cap) ∧ t.at wx) := by
    intro wx hx
    have k := k4.trans (hx.mono k4.size)
    refine ⟨k, (HWa.out wx k).1, ?_, ?_, ((HWa.out wx k).2.2.2.1 i t HTN.out).2.2⟩
    · rw [hx.cell (p := ⟨w2.heap.size, 0, none⟩) (by show w2.heap.size < W4.heap.size; omega), hW4]; simp
    · rw [hx.cell (p := ⟨w2.heap.size, 1, none⟩) (by show w2.heap.size < W4.heap.size; omega), hW4]; simp
  go_upto_region 5 with fail
  rw [← hW4]
  clear hW4 c0 c1 c2
  obtain ⟨_, c0, c1, c2, _⟩ := HK4.out W4 (Below.refl _ _)
  by_cases hlo : t.lo = row
  · have H : Hid (SplT (tbs ts) row (tbs ts)) := splT_same HI.out HTb.out hlo
    have zb : (t.lo.toList == row.toList) = true := by rw [hlo]; simp
    have HLo : Hid (t.lo = row) := hlo
    clear hlo
    go_wp2_with fail
    refine (HCp.out _ k4).mono ?_
    rintro e w3 ⟨g, cp, xs, rfl, q1, q2, hc⟩
    go_wp2_with fail
    exact bodyPost_ret (v := .agg #[.slice (some ⟨g, 0, none⟩) xs.length cp]) (by simp [results, Try.results8, go_sem, q1]) rfl ⟨_, H.out, hc.out⟩
  have zb : (t.lo.toList == row.toList) = false := by
    rw [beq_eq_false_iff_ne]
    intro q
    exact hlo (toList_inj q)
  go_upto_region 7 with fail
  have HT : Hid ((∀ r ∈ t.l, GoodR r.es) ∧ ∀ r ∈ t.l, r.b < W4.heap.size) := by
    refine ⟨fun r hr => ?_, fun r hr => ?_⟩
    · exact (HG.out.tabs i _ HTb.out).runs.2 _ (List.mem_map.2 ⟨r, hr, rfl⟩)
    · obtain ⟨j, hj⟩ := List.getElem?_of_mem hr
      exact ((HK4.out W4 (Below.refl _ _)).2.2.2.2.rms j r hj).2.lt
  have HRn : Hid (∀ X (lo hi : ByteArray) (hh : Bool), Below W4.heap.size W4 X → Calls Try.prog 31 #[.agg #[.string t.lo, .slice (some ⟨t.b, t.off, none⟩) t.l.length t.cap], .agg #[.string lo, .bool hh, .string hi]] X fun e w' => ∃ (g cp n : Nat) (rs : List Rm), e = .returned (.slice (some ⟨g, 0, none⟩) n cp) ∧ Hid (n = rs.length ∧ PartsO w' X.heap.size W4.heap.size (.slice (some ⟨g, 0, none⟩) n cp) rs (keepP lo hh hi (esM t.l)) ∧ Below X.heap.size X w' ∧ Below W4.heap.size W4 w')) := by
    intro X lo hi hh hX
    have hat := (HK4.out X hX).2.2.2.2
    refine (implRunsIn_core t.lo t.b t.off t.cap t.l lo hi hh X hat.rms hat.lt htl HT.out.1 W4.heap.size HT.out.2 hX.size).mono ?_
    rintro e w' ⟨g, cp, rs, rfl, hC, hb'⟩
    exact ⟨g, cp, rs.length, rs, rfl, rfl, hC, hb', hX.trans (hb'.mono hX.size)⟩
  go_cut [7] (fun p wx => ∃ (R g cp n : Nat) (rs : List Rm), p = .pointer (some ⟨R, 0, none⟩) ∧ wx.cell? ⟨R, 0, none⟩ = some (.string t.lo) ∧ wx.cell? ⟨R, 1, none⟩ = some (.slice (some ⟨g, 0, none⟩) n cp) ∧ n = rs.length ∧ R < wx.heap.size ∧ PartsO wx W4.heap.size W4.heap.size (.slice (some ⟨g, 0, none⟩) n cp) rs (keepP ⟨#[]⟩ true row (esM t.l)) ∧ Below W4.heap.size W4 wx)
  case first =>
    have hS : (fun w' : World => w'.cell? ⟨w2.heap.size, 0, none⟩ = some (.string t.lo) ∧ w'.cell? ⟨w2.heap.size, 1, none⟩ = some (.slice (some ⟨t.b, t.off, none⟩) t.l.length t.cap)) W4.drew := by
      obtain ⟨_, _, q1, q2, _⟩ := HK4.out W4.drew ((Below.refl _ _).drew)
      exact ⟨q1, q2⟩
    refine wp_region_T 8 (fun w' : World => w'.cell? ⟨w2.heap.size, 0, none⟩ = some (.string t.lo) ∧ w'.cell? ⟨w2.heap.size, 1, none⟩ = some (.slice (some ⟨t.b, t.off, none⟩) t.l.length t.cap)) (by kernel_rfl) ?_
    refine anyT_take (i := 0) (v := ?vr0x1) rfl (by kernel_rfl) (by kernel_rfl) (by kernel_rfl) (by kernel_rfl) (by decide) (fun _ _ _ h => h) (Or.inl ⟨by rfl, ?yr0x1⟩) hS ?_
    case yr0x1 => (intro wz hSw; (try dsimp only at hSw); go_simp; (try with_reducible rfl))
    try simp only [Act.put, List.setIfInBounds_toArray, List.set_cons_zero, List.set_cons_succ]
    refine anyT_take (i := 1) (v := ?vr1x2) rfl (by kernel_rfl) (by kernel_rfl) (by kernel_rfl) (by kernel_rfl) (by decide) (fun _ _ _ h => h) (Or.inl ⟨by rfl, ?yr1x2⟩) hS ?_
    case yr1x2 => (intro wz hSw; (try dsimp only at hSw); go_simp; (try with_reducible rfl))
    try simp only [Act.put, List.setIfInBounds_toArray, List.set_cons_zero, List.set_cons_succ]
    refine anyT_take (i := 2) (v := ?vr2x3) rfl (by kernel_rfl) (by kernel_rfl) (by kernel_rfl) (by kernel_rfl) (by decide) (fun _ _ _ h => h) (Or.inl ⟨by rfl, ?yr2x3⟩) hS ?_
    case yr2x3 => (intro wz hSw; (try dsimp only at hSw); go_simp; (try with_reducible rfl))
    try simp only [Act.put, List.setIfInBounds_toArray, List.set_cons_zero, List.set_cons_succ]
    refine anyT_take (i := 3) (v := ?vr3x4) rfl (by kernel_rfl) (by kernel_rfl) (by kernel_rfl) (by kernel_rfl) (by decide) (fun _ _ _ h => h) (Or.inl ⟨by rfl, ?yr3x4⟩) hS ?_
    case yr3x4 => (intro wz hSw; (try dsimp only at hSw); go_simp; (try with_reducible rfl))
    try simp only [Act.put, List.setIfInBounds_toArray, List.set_cons_zero, List.set_cons_succ]
    refine anyT_take (i := 4) (v := ?vr4x5) rfl (by kernel_rfl) (by kernel_rfl) (by kernel_rfl) (by kernel_rfl) (by decide) (fun _ _ _ h => h) (Or.inl ⟨by rfl, ?yr4x5⟩) hS ?_
    case yr4x5 => (intro wz hSw; (try dsimp only at hSw); go_simp; (try with_reducible rfl))
    try simp only [Act.put, List.setIfInBounds_toArray, List.set_cons_zero, List.set_cons_succ]
    refine anyT_two (i := 5) (j := 7) (by kernel_rfl) rfl rfl (fun K hK => ?_) (fun K hK => ?_)
    · go_simp
      go_at_call 31
      refine (HRn.out _ _ _ _ ((Below.refl _ _).drew)).mono ?_
      rintro e v1 ⟨g, cp, n, rs, rfl, HC⟩
      obtain ⟨_, _, q1, q2, _⟩ := HK4.out v1 HC.out.2.2.2
      refine hK.out _ _ (.inr ⟨q1, q2⟩) ?_
      clear hK
      try simp only [Act.put, List.setIfInBounds_toArray, List.set_cons_zero, List.set_cons_succ]
      refine anyT_take (i := 6) (v := ?vr7x7) rfl (by kernel_rfl) (by kernel_rfl) (by kernel_rfl) (by kernel_rfl) (by decide) (fun _ _ _ h => h) (Or.inl ⟨by rfl, ?yr7x7⟩) (show _ ∧ _ from ⟨q1, q2⟩) ?_
      case yr7x7 => (intro wz hSw; (try dsimp only at hSw); go_simp; (try with_reducible rfl))
      try simp only [Act.put, List.setIfInBounds_toArray, List.set_cons_zero, List.set_cons_succ]
      refine anyT_one (i := 7) (by kernel_rfl) rfl (fun K hK => ?_)
      go_simp
      obtain ⟨_, _, p1, p2, _⟩ := HK4.out (v1.alloc (Obj.cells #[.string ⟨#[]⟩, .slice none 0 0] 60)) (HC.out.2.2.2.alloc HC.out.2.2.2.size _)
      refine hK.out _ _ (.inr ⟨p1, p2⟩) ?_
      clear hK
      try simp only [Act.put, List.setIfInBounds_toArray, List.set_cons_zero, List.set_cons_succ]
      refine anyT_one (i := 8) (by kernel_rfl) rfl (fun K hK => ?_)
      go_simp
      refine hK.out _ _ (.inl rfl) ?_
      clear hK
      try simp only [Act.put, List.setIfInBounds_toArray, List.set_cons_zero, List.set_cons_succ]
      refine anyT_done (by kernel_rfl) ?_
      go_wp2_with fail
      go_meet
      have hbf : Below v1.heap.size v1 (v1.alloc (Obj.cells #[.string t.lo, .slice (some ⟨g, 0, none⟩) n cp] 60)) := (Below.refl _ _).alloc (Nat.le_refl _) _
      exact ⟨v1.heap.size, g, cp, n, rs, rfl, by simp, by simp, HC.out.1, by simp, (HC.out.2.1.below hbf).mono (by simp), HC.out.2.2.2.trans (hbf.mono HC.out.2.2.2.size)⟩
    · go_simp
      obtain ⟨W5, hW5⟩ : ∃ W5 : World, W5 = (W4.alloc (Obj.cells #[.string ⟨#[]⟩, .slice none 0 0] 60)).drew := ⟨_, rfl⟩
      have hb5 : Below W4.heap.size W4 W5 := by rw [hW5]; exact ((Below.refl _ _).alloc (Nat.le_refl _) _).drew
      have hz5 : W5.heap.size = W4.heap.size + 1 := by rw [hW5]; simp
      have HZ5 : Hid (∀ wx, Below W5.heap.size W5 wx → wx.cell? ⟨W4.heap.size, 0, none⟩ = some (.string ⟨#[]⟩) ∧ wx.cell? ⟨W4.heap.size, 1, none⟩ = some (.slice none 0 0) ∧ wx.frozen? ⟨W4.heap.size, 0, none⟩ = false ∧ wx.frozen? ⟨W4.heap.size, 1, none⟩ = false) := by
        intro wx hx
        refine ⟨?_, ?_, ?_, ?_⟩
        · rw [hx.cell (p := ⟨W4.heap.size, 0, none⟩) (by show W4.heap.size < W5.heap.size; omega), hW5]; simp
        · rw [hx.cell (p := ⟨W4.heap.size, 1, none⟩) (by show W4.heap.size < W5.heap.size; omega), hW5]; simp
        · rw [hx.frozen (p := ⟨W4.heap.size, 0, none⟩) (by show W4.heap.size < W5.heap.size; omega), hW5]; simp
        · rw [hx.frozen (p := ⟨W4.heap.size, 1, none⟩) (by show W4.heap.size < W5.heap.size; omega), hW5]; simp
      obtain ⟨_, _, q1, q2, _⟩ := HK4.out W5 hb5
      rw [← hW5]
      refine hK.out _ _ (.inr ⟨q1, q2⟩) ?_
      clear hK hW5
      try simp only [Act.put, List.setIfInBounds_toArray, List.set_cons_zero, List.set_cons_succ]
      refine anyT_one (i := 5) (by kernel_rfl) rfl (fun K hK => ?_)
      go_simp
      go_at_call 31
      refine (HRn.out W5 _ _ _ hb5).mono ?_
      rintro e v1 ⟨g, cp, n, rs, rfl, HC⟩
      obtain ⟨_, _, p1, p2, _⟩ := HK4.out v1 HC.out.2.2.2
      obtain ⟨y0, y1, y2, y3⟩ := HZ5.out v1 HC.out.2.2.1
      rw [hz4] at y0 y1 y2 y3
      refine hK.out _ _ (.inr ⟨p1, p2⟩) ?_
      clear hK
      try simp only [Act.put, List.setIfInBounds_toArray, List.set_cons_zero, List.set_cons_succ]
      refine anyT_take (i := 6) (v := ?vr7x8) rfl (by kernel_rfl) (by kernel_rfl) (by kernel_rfl) (by kernel_rfl) (by decide) (fun _ _ _ h => h) (Or.inl ⟨by rfl, ?yr7x8⟩) (show _ ∧ _ from ⟨p1, p2⟩) ?_
      case yr7x8 => (intro wz hSw; (try dsimp only at hSw); go_simp; (try with_reducible rfl))
      try simp only [Act.put, List.setIfInBounds_toArray, List.set_cons_zero, List.set_cons_succ]
      refine anyT_one (i := 8) (by kernel_rfl) rfl (fun K hK => ?_)
      go_simp
      refine hK.out _ _ (.inl rfl) ?_
      clear hK
      try simp only [Act.put, List.setIfInBounds_toArray, List.set_cons_zero, List.set_cons_succ]
      refine anyT_done (by kernel_rfl) ?_
      go_wp2_with fail
      go_meet
      obtain ⟨c1, c2, c3, c4⟩ := HC.out
      have k5 := c3.size
      refine ⟨w2.heap.size + 1, g, cp, n, rs, rfl, by simp [go_sem, y0, y1], by simp [go_sem, y0, y1], c1, by simp; omega, ((c2.set (w2.heap.size + 1) 0 (.string t.lo) (by omega) (by omega)).set (w2.heap.size + 1) 1 (.slice (some ⟨g, 0, none⟩) n cp) (by omega) (by omega)).mono (by omega), (c4.setCell (by show W4.heap.size ≤ w2.heap.size + 1; omega) _).setCell (by show W4.heap.size ≤ w2.heap.size + 1; omega) _⟩
  case rest =>
    obtain ⟨R, g1, cp1, n1, rs1, rfl, a0, a1, an1, aR, aC, aB⟩ := hcut
    have HA : Hid (n1 = rs1.length ∧ PartsO wc W4.heap.size W4.heap.size (.slice (some ⟨g1, 0, none⟩) n1 cp1) rs1 (keepP ⟨#[]⟩ true row (esM t.l))) := ⟨an1, aC⟩
    clear an1 aC c0 c1 c2
    obtain ⟨_, d0, d1, d2, _⟩ := HK4.out wc aB
    have sB := aB.size
    go_wp2_with fail
    refine (HRn.out wc _ _ _ aB).mono ?_
    rintro e v1 ⟨g2, cp2, n2, rs2, rfl, HC2⟩
    obtain ⟨W6, hW6⟩ : ∃ W6 : World, W6 = v1.alloc (Obj.cells #[.string row, .slice (some ⟨g2, 0, none⟩) n2 cp2] 60) := ⟨_, rfl⟩
    have hb6 : Below v1.heap.size v1 W6 := by rw [hW6]; exact (Below.refl _ _).alloc (Nat.le_refl _) _
    have hz6 : W6.heap.size = v1.heap.size + 1 := by rw [hW6]; simp
    have sv := HC2.out.2.2.1.size
    have e0 : W6.cell? ⟨v1.heap.size, 0, none⟩ = some (.string row) := by rw [hW6]; simp
    have e1 : W6.cell? ⟨v1.heap.size, 1, none⟩ = some (.slice (some ⟨g2, 0, none⟩) n2 cp2) := by rw [hW6]; simp
    have hbc6 : Below wc.heap.size wc W6 := HC2.out.2.2.1.trans (hb6.mono sv)
    have f0 : W6.cell? ⟨R, 0, none⟩ = some (.string t.lo) := by rw [hbc6.cell (p := ⟨R, 0, none⟩) (by exact aR)]; exact a0
    have f1 : W6.cell? ⟨R, 1, none⟩ = some (.slice (some ⟨g1, 0, none⟩) n1 cp1) := by rw [hbc6.cell (p := ⟨R, 1, none⟩) (by exact aR)]; exact a1
    have k6 : Below W4.heap.size W4 W6 := aB.trans (hbc6.mono sB)
    obtain ⟨b6, h0, _⟩ := HK4.out W6 k6
    have HAB : Hid (n1 = rs1.length ∧ n2 = rs2.length ∧ PartsO W6 Wa.heap.size W4.heap.size (.slice (some ⟨g1, 0, none⟩) n1 cp1) rs1 (keepP ⟨#[]⟩ true row (esM t.l)) ∧ PartsO W6 Wa.heap.size W4.heap.size (.slice (some ⟨g2, 0, none⟩) n2 cp2) rs2 (keepP row false ⟨#[]⟩ (esM t.l))) := by
      obtain ⟨q1, q2⟩ := HA.out
      obtain ⟨p1, p2, p3, _⟩ := HC2.out
      have s4 := k4.size
      exact ⟨q1, p1, (q2.below hbc6).mono s4, (p2.below hb6).mono (by omega)⟩
    clear a0 a1 d0 d1 d2
    have s6 := b6.size
    have hwr : IntKind.i64.wrap ((i : Int) + 1) = (i : Int) + 1 := by rw [IntKind.wrap_i64]; omega
    obtain ⟨W7, hW7⟩ : ∃ W7 : World, W7 = W6.alloc (Obj.cells #[.string t.lo, .slice (some ⟨g1, 0, none⟩) n1 cp1, .string row, .slice (some ⟨g2, 0, none⟩) n2 cp2] 60) := ⟨_, rfl⟩
    have hb7 : Below W6.heap.size W6 W7 := by rw [hW7]; exact (Below.refl _ _).alloc (Nat.le_refl _) _
    have hz7 : W7.heap.size = W6.heap.size + 1 := by rw [hW7]; simp
    have k7 : Below Wa.heap.size Wa W7 := b6.trans (hb7.mono s6)
    have HT8 : Hid (TmsAt W7 b off ts ∧ TysAt W7 W6.heap.size 0 [⟨t.lo, .slice (some ⟨g1, 0, none⟩) n1 cp1, rs1⟩, ⟨row, .slice (some ⟨g2, 0, none⟩) n2 cp2, rs2⟩]) := by
      refine ⟨(HWa.out W7 k7).2.2.2.1, fun j u hu => ?_⟩
      match j with
      | 0 => simp at hu; subst hu; exact ⟨by rw [hW7]; simp, by rw [hW7]; simp, (HAB.out.2.2.1.below hb7).inn⟩
      | 1 => simp at hu; subst hu; exact ⟨by rw [hW7]; simp, by rw [hW7]; simp, (HAB.out.2.2.2.below hb7).inn⟩
      | j + 2 => simp at hu
    have hBb : b < W7.heap.size := (HWa.out W7 k7).2.2.2.2
    have HRep : Hid (Calls Try.prog 32 #[.agg #[.slice (some ⟨b, off, none⟩) ts.length cap], .int .i64 i, .int .i64 ((i : Int) + 1), .slice (some ⟨W6.heap.size, 0, none⟩) 2 2] W7 fun e w' => ∃ (g cp : Nat) (xs : List Tx), e = .returned (.agg #[.slice (some ⟨g, 0, none⟩) xs.length cp]) ∧ w'.cell? ⟨w.heap.size + 1, 0, none⟩ = some (.slice none 0 0) ∧ w'.frozen? ⟨w.heap.size + 1, 0, none⟩ = false ∧ Hid (SpIPost w (tbs ts) row (.returned (.agg #[.slice (some ⟨g, 0, none⟩) xs.length cp])) (w'.setCell ⟨w.heap.size + 1, 0, none⟩ (.slice (some ⟨g, 0, none⟩) xs.length cp)))) := by
      have hln : (ts.map Tm.ty).length = ts.length := List.length_map ..
      have s7 := k7.size
      have h9 := implReplaced_core b off cap (ts.map Tm.ty) [⟨t.lo, .slice (some ⟨g1, 0, none⟩) n1 cp1, rs1⟩, ⟨row, .slice (some ⟨g2, 0, none⟩) n2 cp2, rs2⟩] i (i + 1) W6.heap.size W7 HT8.out.1.tys hBb HT8.out.2 (by omega) (by omega) (by simp) (by omega) (by unfold maxLen; omega) (by omega) (by rw [hln]; omega) (by simp) (fun x hx => by
        rcases List.mem_append.1 hx with hx | hx
        · exact HSy.out x hx
        · have h3 := HS.out.2 t (List.mem_of_getElem? HTN.out)
          simp only [List.mem_cons, List.not_mem_nil, or_false] at hx
          rcases hx with rfl | rfl
          · exact HAB.out.2.2.1.small h3
          · exact HAB.out.2.2.2.small h3)
      rw [hln] at h9
      have h10 : ((i + 1 : Nat) : Int) = (i : Int) + 1 := by omega
      rw [h10] at h9
      refine h9.mono ?_
      intro e w9 hp
      obtain ⟨g, cp, xs, rfl, hb9, hc⟩ := copy_in (w := w) (w.heap.size + 1) (hba.trans (k7.mono (by omega))) (by omega) (by omega) hp
      obtain ⟨_, q1, q2, _⟩ := HWa.out w9 (k7.trans (hb9.mono s7))
      refine ⟨g, cp, xs, rfl, q1, q2, _, ?_, hc⟩
      have h12 : ((ts.map Tm.ty).take i ++ [Ty.mk t.lo (.slice (some ⟨g1, 0, none⟩) n1 cp1) rs1, Ty.mk row (.slice (some ⟨g2, 0, none⟩) n2 cp2) rs2] ++ (ts.map Tm.ty).drop (i + 1)).map Ty.tb = cutT (tbs ts) i t.tb row := by
        rw [List.map_append, List.map_append, List.map_take, List.map_drop, tms_ty]
        have r1 := HAB.out.2.2.1.same
        have r2 := HAB.out.2.2.2.same
        simp only [List.map_cons, List.map_nil, Ty.tb, r1, r2]
        rfl
      rw [h12]
      exact splT_done HG.out (by omega) (by rw [tbs_len]; exact HF.out) HI.out HTb.out hlo
    go_upto_region 9 with fail
    rw [← hW6]
    clear hW6 hz6 hz7
    go_wp2_with fail
    rw [← hW7]
    clear hW7
    refine HRep.out.mono ?_
    rintro e w9 ⟨g, cp, xs, rfl, q1, q2, hc⟩
    go_wp2_with fail
    exact bodyPost_ret (v := .agg #[.slice (some ⟨g, 0, none⟩) xs.length cp]) (by simp [results, Try.results8, go_sem, q1]) rfl hc.out
end Go.Proofs.Ytlgeffinhbodeaf

/-
  What the law FnExactSplitStore needs besides: how much a split store holds.
-/
namespace Go.Proofs.Ytlgeffinhbodeaf
open Go.ChangeShapes Go.WideShapes Go.ChangeAt Go.RowKit Go.Deep
set_option linter.unusedVariables false
set_option linter.unusedSimpArgs false

theorem tm_ok3 {ts : List Tm} (h : szB (tbs ts) ≤ 1048576) : ∀ t ∈ ts, t.l.length + totM t.l ≤ 1048576 := by
  intro t ht
  have h1 := szB_mem (List.mem_map.2 ⟨t, ht, rfl⟩ : t.tb ∈ ts.map Tm.tb)
  have h2 := szR_totM t.l
  unfold tbs at h
  have h3 : szR t.tb.rs = szR (esM t.l) := rfl
  omega
theorem split_one {ts : List Tb} {i : Nat} {a : Tb} (ha : ts[i]? = some a) : ts = ts.take i ++ a :: ts.drop (i + 1) := by
  obtain ⟨h1, h2⟩ := List.getElem?_eq_some_iff.1 ha
  rw [← h2]
  conv => lhs; rw [← List.take_append_drop i ts]
  congr 1
  rw [List.drop_eq_getElem_cons h1]
theorem cutT_sz {ts : List Tb} {i : Nat} {a : Tb} {row : ByteArray} (ha : ts[i]? = some a) : szB (cutT ts i a row) ≤ 2 * szB ts ∧ (cutT ts i a row).length = ts.length + 1 ∧ ∀ t ∈ cutT ts i a row, szR t.rs ≤ szB ts := by
  have h1 := split_one ha
  have h2 := congrArg szB h1
  have h3 := congrArg List.length h1
  have k1 := szR_keep ⟨#[]⟩ row true a.rs
  have k2 := szR_keep row ⟨#[]⟩ false a.rs
  have k3 := szB_mem (List.mem_of_getElem? ha)
  rw [szB_append] at h2
  simp only [szB, List.length_append, List.length_cons] at h2 h3
  unfold cutT
  refine ⟨?_, ?_, fun t ht => ?_⟩
  · rw [szB_append, szB_append]
    simp only [szB]
    omega
  · simp only [List.length_append, List.length_cons, List.length_nil]
    omega
  · rcases List.mem_append.1 ht with ht | ht
    · rcases List.mem_append.1 ht with ht | ht
      · exact szB_mem (List.mem_of_mem_take ht)
      · simp only [List.mem_cons, List.not_mem_nil, or_false] at ht
        rcases ht with rfl | rfl
        · show szR (keepP _ _ _ _) ≤ _; omega
        · show szR (keepP _ _ _ _) ≤ _; omega
    · exact szB_mem (List.mem_of_mem_drop ht)
theorem splT_sz {ts out : List Tb} {row : ByteArray} (h : SplT ts row out) : szB out ≤ 2 * szB ts ∧ (out.length ≤ ts.length ∨ out.length ≤ 101) ∧ ∀ t ∈ out, szR t.rs ≤ szB ts := by
  have hself : szB ts ≤ 2 * szB ts ∧ (ts.length ≤ ts.length ∨ ts.length ≤ 101) ∧ ∀ t ∈ ts, szR t.rs ≤ szB ts := ⟨by omega, .inl (Nat.le_refl _), fun t ht => szB_mem ht⟩
  by_cases hg : GoodS ts
  · by_cases hl : 64 < row.size
    · rw [h.long hl]; exact hself
    · by_cases hf : ts.length = 100
      · rw [h.full hf]; exact hself
      · obtain ⟨i, hi⟩ := hold_ex hg row
        have ha := List.getElem?_eq_getElem hi.1
        by_cases hs : (ts[i]'hi.1).lo = row
        · rw [h.same hg i _ hi ha hs]; exact hself
        · rw [h.done hg (by omega) hf i _ hi ha hs]
          obtain ⟨b1, b2, b3⟩ := cutT_sz (row := row) ha
          have b4 := hg.le
          exact ⟨b1, .inr (by omega), b3⟩
  · rw [h.bad hg]; exact hself
theorem tx_ok2 {xs : List Tx} (h : ∀ t ∈ xs.map Tx.tb, szR t.rs ≤ 1048576) : ∀ t ∈ xs, totW t.rs ≤ 1048576 ∧ t.rs.length ≤ 1048576 := by
  intro t ht
  have h1 := h _ (List.mem_map.2 ⟨t, ht, rfl⟩)
  have h2 := szR_totW t.rs
  simp [Tx.tb] at h1
  omega
/-- impl.SplitStore at a store that the law has made. -/
theorem implSplit_at {w : World} {base g : Nat} {l : List Tw} {ts : List Tn} (row : ByteArray) (hrs : row.size ≤ 1048576) (h : OwnTabs w base g l) (hm : l.map Tw.tb = ts.map Tn.tb) (hok : okT ts) (hn : ts.length + totT ts ≤ 1048576) :
    Calls Try.prog 8 #[.agg #[.slice (some ⟨g, 0, none⟩) l.length l.length], .string row] w fun e w' => SpIPost w (ts.map Tn.tb) row e w' := by
  have hl : l.length = ts.length := by have := congrArg List.length hm; simpa using this
  have h1 : szB (tbs (l.map Tw.tm)) ≤ 1048576 := by
    rw [tms_tns hm]
    have := szB_tn ts
    omega
  have := implSplit_store g 0 l.length (l.map Tw.tm) row w h.at (ok_tms hm hok h.short) h.lt.2 (by rw [List.length_map]; omega) hrs (by rw [List.length_map]; exact Nat.le_refl _) (by unfold maxLen; omega) (tm_ok3 h1)
  rw [tms_tns hm, List.length_map] at this
  exact this
theorem specSplit_at {w : World} {base g : Nat} {l : List Tw} {ts : List Tn} (row : ByteArray) (hrs : row.size ≤ 1048576) (h : OwnTabs w base g l) (hm : l.map Tw.tb = ts.map Tn.tb) (hok : okT ts) (hn : ts.length + totT ts ≤ 1048576) :
    Calls Try.prog 6 #[.agg #[.slice (some ⟨g, 0, none⟩) l.length l.length], .string row] w fun e w' => SpSPost w (ts.map Tn.tb) row e w' := by
  have hl : l.length = ts.length := by have := congrArg List.length hm; simpa using this
  have h1 : szB (tbs (l.map Tw.tm)) ≤ 1048576 := by
    rw [tms_tns hm]
    have := szB_tn ts
    omega
  have := specSplit_store g 0 l.length (l.map Tw.tm) row w h.at (ok_tms hm hok h.short) h.lt.2 (by rw [List.length_map]; omega) hrs (tm_ok h1)
  rw [tms_tns hm, List.length_map] at this
  exact this
end Go.Proofs.Ytlgeffinhbodeaf

/-
  The law FnExactSplitStore.
-/
namespace Go.Proofs.Ytlgeffinhbodeaf.exSplitStore
open Go.ChangeShapes Go.WideShapes Go.ChangeAt Go.RowKit Go.Deep
open Go.ChangeMaps (open_string shut_string)
set_option linter.unusedVariables false
set_option linter.unusedSimpArgs false
set_option maxRecDepth 100000

theorem own : ownKnob Try.prog.godebug = none := by kernel_rfl
theorem laidOut : laidOutB Try.prog = true := by kernel_rfl
theorem toStore_in (W0 : World) (u : Value) (ts : List Tn) (w : World) (hb : Below W0.heap.size W0 w) (h : Hid (InTabs W0 u ts)) (h1 : ts.length + totT ts ≤ 1048576) (l0 : List Tw) (hl0 : Hid (l0.map Tw.tb = ts.map Tn.tb)) :
    Calls Try.prog 7 #[.agg #[u]] w fun e w' =>
      ∃ (g : Nat) (l : List Tw), e = .returned (.agg #[.slice (some ⟨g, 0, none⟩) l.length l.length]) ∧ Hid (InTabs w' (.slice (some ⟨g, 0, none⟩) l.length l.length) ((l.map Tw.tx).map Tx.tn) ∧ vwT ((l0.map Tw.tx).map Tx.tn) = vwT ((l.map Tw.tx).map Tx.tn)) ∧ Below W0.heap.size W0 w' ∧ (∀ b o, b < W0.heap.size → w'.cell? ⟨b, o, none⟩ = W0.cell? ⟨b, o, none⟩) := by
  refine (toStore_any u ts w (h.out.below hb) h1).mono ?_
  rintro e w' ⟨g, l, he, hO, hm, hb'⟩
  have k := hb.trans (hb'.mono hb.size)
  exact ⟨g, l, he, ⟨hO.st.ins, vwX_eq (by rw [tx_tb, tx_tb, hm, hl0.out])⟩, k, fun b o hlt => k.cell (p := ⟨b, o, none⟩) hlt⟩
theorem eqStore_in (W0 : World) (u u' : Value) (l l' : List Tn) (w : World) (hb : Below W0.heap.size W0 w) (h : Hid (InTabs W0 u l)) (h' : Hid (InTabs w u' l' ∧ vwT l = vwT l')) :
    Calls Try.prog 9 #[.agg #[u], .agg #[u']] w fun e w' => e = .returned (.bool true) ∧ Below W0.heap.size W0 w' := by
  refine (eqStore_any u u' l l' w (h.out.below hb) h'.out.1 h'.out.2).mono ?_
  rintro e w' ⟨he, hb'⟩
  exact ⟨he, hb.trans (hb'.mono hb.size)⟩

set_option maxHeartbeats 8000000 in
theorem walk (u : Value) (ts : List Tn) (row : ByteArray) (w : World) (h : InTabs w u ts) (hok : okT ts) (hr : row.size ≤ maxLen) :
    Calls Try.prog 3 #[.agg #[u], .string row] w fun e w' => e = .returned (.bool true) ∧ Below w.heap.size w w' := by
  have HE : Hid (InTabs w u ts ∧ okT ts) := ⟨h, hok⟩
  have hu := h.ucells
  unfold maxLen at hr
  clear h hok
  by_cases hbig : 1048576 < row.size
  · have z : (1048576 : Int) < (row.size : Int) := by omega
    go_enter Try.func3, Try.ntmps3
    go_wp2_with fail
    go_ret
    exact ⟨rfl, (Below.refl _ _).alloc (Nat.le_refl _) _⟩
  have z : ¬ (1048576 : Int) < (row.size : Int) := by omega
  obtain ⟨W0, hW0⟩ : ∃ W0 : World, W0 = w.alloc (Obj.cells #[u] 24) := ⟨_, rfl⟩
  have hb0 : Below w.heap.size w W0 := by rw [hW0]; exact (Below.refl _ _).alloc (Nat.le_refl _) _
  have hz0 : w.heap.size < W0.heap.size := by rw [hW0]; simp
  have HK0 : Hid (∀ wx, Below W0.heap.size W0 wx → wx.cell? ⟨w.heap.size, 0, none⟩ = some u ∧ InTabs wx u ts) := fun wx hx => ⟨by rw [hx.cell (p := ⟨w.heap.size, 0, none⟩) hz0, hW0]; simp, (HE.out.1.below hb0).below hx⟩
  obtain ⟨ca, hI0⟩ := HK0.out W0 (Below.refl _ _)
  have HI0 : Hid (InTabs W0 u ts) := hI0
  clear hI0
  go_enter Try.func3, Try.ntmps3
  go_upto_region 4 with fail
  rw [← hW0]
  clear hW0
  go_wp2_with fail
  refine (szStore_any u ts _ _ HI0.out HE.out.2 (by omega) (by omega)).mono ?_
  rintro e w1 ⟨x, rfl, hx, hb1⟩
  have hs1 := hb1.size
  by_cases hx0 : x < 0
  · clear hx
    go_wp2_with fail
    go_ret
    exact ⟨rfl, hb0.trans (hb1.mono (by omega))⟩
  have hn : ts.length + totT ts ≤ 1048576 := by omega
  clear hx ca
  obtain ⟨ca, hI1⟩ := HK0.out w1 hb1
  have HI1 : Hid (InTabs w1 u ts) := hI1
  clear hI1
  go_wp2_with fail
  refine (toStore_any u ts _ HI1.out hn).mono ?_
  rintro e w2 ⟨g1, l1, rfl, hO1, hm1, hb2⟩
  have HO1 : Hid (OwnTabs w2 w1.heap.size g1 l1 ∧ l1.map Tw.tb = ts.map Tn.tb) := ⟨hO1, hm1⟩
  have k02 : Below W0.heap.size W0 w2 := hb1.trans (hb2.mono hs1)
  have s2 := k02.size
  clear hO1 hm1 hb2
  go_wp2_with fail
  refine (specSplit_at row (by omega) HO1.out.1 HO1.out.2 HE.out.2 hn).mono ?_
  rintro e w3 ⟨out, hM, v0, xs0, rfl, hS0, hxo, hb3⟩
  obtain ⟨va, vn, vc, rfl⟩ : ∃ va vn vc, v0 = .slice va vn vc := by
    rcases hS0.row with ⟨_, a, c, q⟩ | ⟨g, cp, q, _⟩ <;> exact ⟨_, _, _, q⟩
  have k03 : Below W0.heap.size W0 w3 := k02.trans (hb3.mono s2)
  have s3 := k03.size
  obtain ⟨W3, hW3⟩ : ∃ W3 : World, W3 = w3.alloc (Obj.cells #[.slice va vn vc] 28) := ⟨_, rfl⟩
  have hbW3 : Below w3.heap.size w3 W3 := by rw [hW3]; exact (Below.refl _ _).alloc (Nat.le_refl _) _
  have hz3 : W3.heap.size = w3.heap.size + 1 := by rw [hW3]; simp
  have k0W3 : Below W0.heap.size W0 W3 := k03.trans (hbW3.mono s3)
  -- what spec answers, in every world to come
  have HS0 : Hid ((∀ wx, Below W3.heap.size W3 wx → wx.cell? ⟨w3.heap.size, 0, none⟩ = some (.slice va vn vc) ∧ InTabs wx (.slice va vn vc) (xs0.map Tx.tn)) ∧ SplT (ts.map Tn.tb) row out ∧ xs0.map Tx.tb = out) := ⟨fun wx hx => ⟨by rw [hx.cell (p := ⟨w3.heap.size, 0, none⟩) (by show w3.heap.size < W3.heap.size; omega), hW3]; simp, ((hS0.below hbW3).below hx).ins⟩, hM, hxo⟩
  clear hS0 hM hxo hb3 ca
  obtain ⟨ca, hI3⟩ := HK0.out W3 k0W3
  have HI3 : Hid (InTabs W3 u ts) := hI3
  clear hI3
  go_upto_region 8 with fail
  rw [← hW3]
  clear hW3
  go_wp2_with fail
  refine (toStore_any u ts _ HI3.out hn).mono ?_
  rintro e w4 ⟨g2, l2, rfl, hO2, hm2, hb4⟩
  have s4 := hb4.size
  obtain ⟨W4, hW4⟩ : ∃ W4 : World, W4 = w4.alloc (Obj.cells #[.slice (some ⟨g2, 0, none⟩) l2.length l2.length] 28) := ⟨_, rfl⟩
  have hbW4 : Below w4.heap.size w4 W4 := by rw [hW4]; exact (Below.refl _ _).alloc (Nat.le_refl _) _
  have hz4 : W4.heap.size = w4.heap.size + 1 := by rw [hW4]; simp
  have k34 : Below W3.heap.size W3 W4 := hb4.trans (hbW4.mono s4)
  have HX : Hid (OwnTabs w4 W3.heap.size g2 l2 ∧ OwnTabs W4 W3.heap.size g2 l2 ∧ l2.map Tw.tb = ts.map Tn.tb ∧ ∀ wx, Below W4.heap.size W4 wx → wx.cell? ⟨w4.heap.size, 0, none⟩ = some (.slice (some ⟨g2, 0, none⟩) l2.length l2.length)) := ⟨hO2, hO2.below hbW4, hm2, fun wx hx => by rw [hx.cell (p := ⟨w4.heap.size, 0, none⟩) (by show w4.heap.size < W4.heap.size; omega), hW4]; simp⟩
  clear hO2 hm2 hb4 ca
  have cx := HX.out.2.2.2 W4 (Below.refl _ _)
  go_upto_region 9 with fail
  rw [← hW4]
  clear hW4
  go_wp2_with fail
  refine (implSplit_at row (by omega) HX.out.2.1 HX.out.2.2.1 HE.out.2 hn).mono ?_
  rintro e w5 ⟨out', hM', gg, cpp, xs, rfl, hS5, hA5, hx5, hb5⟩
  have s5 := hb5.size
  obtain ⟨W5, hW5⟩ : ∃ W5 : World, W5 = w5.alloc (Obj.cells #[.slice (some ⟨gg, 0, none⟩) xs.length cpp] 28) := ⟨_, rfl⟩
  have hbW5 : Below w5.heap.size w5 W5 := by rw [hW5]; exact (Below.refl _ _).alloc (Nat.le_refl _) _
  have hz5 : W5.heap.size = w5.heap.size + 1 := by rw [hW5]; simp
  have k45 : Below W4.heap.size W4 W5 := hb5.trans (hbW5.mono s5)
  have k35 : Below W3.heap.size W3 W5 := k34.trans (k45.mono (by omega))
  have HG : Hid (OwnSt W5 W4.heap.size (.slice (some ⟨gg, 0, none⟩) xs.length cpp) xs ∧ (∀ k, KeysT (.slice (some ⟨gg, 0, none⟩) xs.length cpp) xs k → W4.heap.size ≤ k ∧ k < w5.heap.size) ∧ ApartT xs ∧ xs.map Tx.tb = out ∧ (szB (xs.map Tx.tb) ≤ 2097152 ∧ ∀ t ∈ xs.map Tx.tb, szR t.rs ≤ 1048576) ∧ xs.length ≤ 1048576) := by
    have e1 : out' = out := splT_uniq hM' HS0.out.2.1
    obtain ⟨b1, b2, b5⟩ := splT_sz hM'
    have b3 := szB_tn ts
    have b4 := congrArg List.length hx5
    simp at b4 b2
    refine ⟨hS5.below hbW5, fun k hk => hS5.key hk, hA5, by rw [hx5, e1], ⟨by rw [hx5]; omega, fun t ht => by rw [hx5] at ht; have := b5 t ht; omega⟩, by omega⟩
  have HCg : Hid (∀ wx, Below W5.heap.size W5 wx → wx.cell? ⟨w5.heap.size, 0, none⟩ = some (.slice (some ⟨gg, 0, none⟩) xs.length cpp)) := fun wx hx => by rw [hx.cell (p := ⟨w5.heap.size, 0, none⟩) (by show w5.heap.size < W5.heap.size; omega), hW5]; simp
  clear hS5 hA5 hx5 hM' hb5 cx
  have cg := HCg.out W5 (Below.refl _ _)
  obtain ⟨cw, hw5⟩ := HS0.out.1 W5 k35
  have HI5 : Hid (InTabs W5 (.slice va vn vc) (xs0.map Tx.tn)) := hw5
  clear hw5
  have HV : Hid (vwT (xs.map Tx.tn) = vwT (xs0.map Tx.tn)) := vwX_eq (by rw [HG.out.2.2.2.1, HS0.out.2.2])
  go_upto_region 10 with fail
  rw [← hW5]
  clear hW5
  go_wp2_with fail
  refine (eqStore_any _ _ _ _ _ HG.out.1.ins HI5.out HV.out).mono ?_
  rintro e w6 ⟨rfl, hb6⟩
  have s6 := hb6.size
  have k46 : Below W4.heap.size W4 w6 := k45.trans (hb6.mono (by omega))
  have k36 : Below W3.heap.size W3 w6 := k35.trans (hb6.mono (by omega))
  have k06 : Below W0.heap.size W0 w6 := k0W3.trans (k36.mono k0W3.size)
  clear cg cw
  have cx6 := HX.out.2.2.2 w6 k46
  obtain ⟨ca6, hI6⟩ := HK0.out w6 k06
  have HI6 : Hid (InTabs w6 u ts) := hI6
  clear hI6
  go_upto_region 12 with fail
  go_cut [38] (fun s wx => s = .bool false ∧ Below w6.heap.size w6 wx)
  case first =>
    have hz6 : w4.heap.size < w6.heap.size := by omega
    have hza : w.heap.size < w6.heap.size := by have := k06.size; omega
    have HX6 : Hid (InTabs w6 (.slice (some ⟨g2, 0, none⟩) l2.length l2.length) ((l2.map Tw.tx).map Tx.tn)) := (HX.out.2.1.st.below k46).ins
    have HM2 : Hid (l2.map Tw.tb = ts.map Tn.tb) := HX.out.2.2.1
    go_region_with (first
      | (go_at_call 7; refine (toStore_in w6 u ts _ ?hB HI6 hn l2 HM2).mono ?_; (case hB => (repeat (first | assumption | exact Below.refl _ _ | refine Below.drew ?_))); rintro e w' ⟨g3, l3, rfl, HG3, hbb, hcc⟩)
      | (go_at_call 9; refine (eqStore_in w6 _ _ ((l2.map Tw.tx).map Tx.tn) ((l3.map Tw.tx).map Tx.tn) _ ?hB HX6 ?hC).mono ?_; (case hB => (repeat (first | assumption | exact Below.refl _ _ | refine Below.drew ?_))); (case hC => assumption); rintro e w' ⟨rfl, hbb2⟩))
    all_goals go_wp2_with fail
    all_goals go_meet
    all_goals exact ⟨rfl, by assumption⟩
  case rest =>
  obtain ⟨rfl, h7⟩ := hcut
  have s7 := h7.size
  have k47 : Below W4.heap.size W4 wc := k46.trans (h7.mono (by have := k46.size; omega))
  have k57 : Below W5.heap.size W5 wc := hb6.trans (h7.mono s6)
  have k37 : Below W3.heap.size W3 wc := k36.trans (h7.mono (by have := k36.size; omega))
  have HT7 : Hid (OwnSt wc W3.heap.size (.slice (some ⟨g2, 0, none⟩) l2.length l2.length) (l2.map Tw.tx) ∧ ApartT (l2.map Tw.tx) ∧ szB ((l2.map Tw.tx).map Tx.tb) ≤ 1048576 ∧ (l2.map Tw.tx).length ≤ 1048576 ∧ (∀ k, KeysT (.slice (some ⟨g2, 0, none⟩) l2.length l2.length) (l2.map Tw.tx) k → W3.heap.size ≤ k ∧ k < w4.heap.size)) := by
    have b3 := szB_tn ts
    have b4 := congrArg List.length HX.out.2.2.1
    simp at b4
    refine ⟨(HX.out.2.1.st.below k47), HX.out.2.1.apart, by rw [tx_tb, HX.out.2.2.1]; omega, by rw [List.length_map]; omega, fun k hk => HX.out.1.st.key hk⟩
  obtain ⟨tx, htx⟩ : ∃ tx, tx = totX (l2.map Tw.tx) := ⟨_, rfl⟩
  have htx1 : tx ≤ 8388608 := by
    have q1 := totX_sz (l2.map Tw.tx)
    have q2 := HT7.out.2.2.1
    have q3 := HT7.out.2.2.2.1
    rw [htx]; omega
  have HTX : Hid (tx = totX (l2.map Tw.tx)) := htx
  clear htx cx6 ca6
  have cx7 := HX.out.2.2.2 wc k47
  go_upto_region 15 with fail
  go_wp2_with fail
  refine (markStore_gen W3.heap.size _ _ 1 _ HT7.out.1 HT7.out.2.1 (by omega) (by rw [← HTX.out]; omega) (tx_ok HT7.out.2.2.1) HT7.out.2.2.2.1).mono ?_
  rintro e w8 ⟨ts8, rfl, _, _, _, hC8⟩
  rw [← HTX.out]
  have s8 := hC8.size
  have k38 : Below W3.heap.size W3 w8 := Chg.below k37 hC8 k37.size (fun k q => (HT7.out.2.2.2.2 k q).1)
  have HG8 : Hid (OwnSt w8 W4.heap.size (.slice (some ⟨gg, 0, none⟩) xs.length cpp) xs) := (HG.out.1.below k57).chg hC8 (fun k q1 q2 q3 => by have := (HT7.out.2.2.2.2 k q3).2; omega)
  have cg8 : w8.cell? ⟨w5.heap.size, 0, none⟩ = some (.slice (some ⟨gg, 0, none⟩) xs.length cpp) := by
    rw [hC8.cell (p := ⟨w5.heap.size, 0, none⟩) (by show w5.heap.size < wc.heap.size; omega) (fun q => by have := (HT7.out.2.2.2.2 _ q).2; simp only at this; omega)]; exact HCg.out wc k57
  obtain ⟨cw8, hw8⟩ := HS0.out.1 w8 k38
  have HI8 : Hid (InTabs w8 (.slice va vn vc) (xs0.map Tx.tn)) := hw8
  clear hw8 cx7 hC8
  have zk : ¬ (1 : Int) + (tx : Int) < 0 := by omega
  have hd : decide ((1 : Int) + (tx : Int) < 0) = false := decide_eq_false zk
  go_wp2_with fail
  refine (eqStore_any _ _ _ _ _ HG8.out.ins HI8.out HV.out).mono ?_
  rintro e w9 ⟨rfl, hb9⟩
  have s9 := hb9.size
  have k39 : Below W3.heap.size W3 w9 := k38.trans (hb9.mono k38.size)
  have cg9 : w9.cell? ⟨w5.heap.size, 0, none⟩ = some (.slice (some ⟨gg, 0, none⟩) xs.length cpp) := by rw [hb9.cell (p := ⟨w5.heap.size, 0, none⟩) (by show w5.heap.size < w8.heap.size; omega)]; exact cg8
  have HG9 : Hid (OwnSt w9 W4.heap.size (.slice (some ⟨gg, 0, none⟩) xs.length cpp) xs) := HG8.out.below hb9
  obtain ⟨tg, htg⟩ : ∃ tg, tg = totX xs := ⟨_, rfl⟩
  have htg1 : tg ≤ 16777216 := by
    have q1 := totX_sz xs
    have q2 := HG.out.2.2.2.2.1.1
    have q3 := HG.out.2.2.2.2.2
    rw [htg]; omega
  have HTG : Hid (tg = totX xs) := htg
  clear htg cg8 cw8
  go_upto_region 19 with fail
  go_wp2_with fail
  refine (markStore_gen W4.heap.size _ _ 1 _ HG9.out HG.out.2.2.1 (by omega) (by rw [← HTG.out]; omega) (tx_ok2 HG.out.2.2.2.2.1.2) HG.out.2.2.2.2.2).mono ?_
  rintro e w10 ⟨ts10, rfl, hsh, hS10, hmk, hC10⟩
  rw [← HTG.out]
  have s10 := hC10.size
  have k310 : Below W3.heap.size W3 w10 := Chg.below k39 hC10 k39.size (fun k q => by have := (HG.out.2.1 k q).1; omega)
  have cg10 : w10.cell? ⟨w5.heap.size, 0, none⟩ = some (.slice (some ⟨gg, 0, none⟩) xs.length cpp) := by
    rw [hC10.cell (p := ⟨w5.heap.size, 0, none⟩) (by show w5.heap.size < w9.heap.size; omega) (fun q => by have := (HG.out.2.1 _ q).2; simp only at this; omega)]; exact cg9
  have HG10 : Hid (OwnSt w10 W4.heap.size (.slice (some ⟨gg, 0, none⟩) xs.length cpp) ts10 ∧ MarkedT 1 ts10 ∧ totX ts10 = tg ∧ (∀ t ∈ ts10, totW t.rs ≤ 1048576 ∧ t.rs.length ≤ 1048576) ∧ ts10.length ≤ 1048576) := by
    have q1 := congrArg List.length hsh
    simp at q1
    refine ⟨hS10, hmk, by rw [shpT_tot hsh]; exact HTG.out.symm, shpT_ok hsh (tx_ok2 HG.out.2.2.2.2.1.2), by have := HG.out.2.2.2.2.2; omega⟩
  clear hsh hS10 hmk hC10 cg9
  go_upto_region 21 with fail
  go_wp2_with fail
  refine (heldStore_gen W4.heap.size _ ts10 1 _ HG10.out.1 HG10.out.2.1 (by omega) (by rw [HG10.out.2.2.1]; omega) HG10.out.2.2.2.1 HG10.out.2.2.2.2).mono ?_
  rintro e w11 ⟨rfl, hb11⟩
  rw [HG10.out.2.2.1]
  have k311 : Below W3.heap.size W3 w11 := k310.trans (hb11.mono k310.size)
  have k011 : Below W0.heap.size W0 w11 := k0W3.trans (k311.mono k0W3.size)
  obtain ⟨ca11, hI11⟩ := HK0.out w11 k011
  have HI11 : Hid (InTabs w11 u ts) := hI11
  clear hI11 cg10
  have zq : ¬ (1 : Int) + (tg : Int) < 0 := by omega
  go_wp2_with fail
  refine (toStore_any u ts _ HI11.out hn).mono ?_
  rintro e w12 ⟨g3, l3, rfl, hO3, hm3, hb12⟩
  have k312 : Below W3.heap.size W3 w12 := k311.trans (hb12.mono k311.size)
  have HO3 : Hid (OwnTabs w12 w11.heap.size g3 l3 ∧ l3.map Tw.tb = ts.map Tn.tb) := ⟨hO3, hm3⟩
  clear hO3 hm3
  go_wp2_with fail
  refine (implSplit_at row (by omega) HO3.out.1 HO3.out.2 HE.out.2 hn).mono ?_
  rintro e w13 ⟨out', hM', gh, cph, ys, rfl, hS13, _, hx13, hb13⟩
  have k313 : Below W3.heap.size W3 w13 := k312.trans (hb13.mono k312.size)
  obtain ⟨W14, hW14⟩ : ∃ W14 : World, W14 = w13.alloc (Obj.cells #[.slice (some ⟨gh, 0, none⟩) ys.length cph] 28) := ⟨_, rfl⟩
  have hbW14 : Below w13.heap.size w13 W14 := by rw [hW14]; exact (Below.refl _ _).alloc (Nat.le_refl _) _
  have k314 : Below W3.heap.size W3 W14 := k313.trans (hbW14.mono k313.size)
  have HH : Hid (InTabs W14 (.slice (some ⟨gh, 0, none⟩) ys.length cph) (ys.map Tx.tn) ∧ vwT (ys.map Tx.tn) = vwT (xs0.map Tx.tn)) := ⟨(hS13.below hbW14).ins, vwX_eq (by rw [hx13, HS0.out.2.2]; exact splT_uniq hM' HS0.out.2.1)⟩
  have ch : W14.cell? ⟨w13.heap.size, 0, none⟩ = some (.slice (some ⟨gh, 0, none⟩) ys.length cph) := by rw [hW14]; simp
  obtain ⟨cw14, hw14⟩ := HS0.out.1 W14 k314
  have HI14 : Hid (InTabs W14 (.slice va vn vc) (xs0.map Tx.tn)) := hw14
  clear hw14 hS13 hx13 hM' ca11
  go_upto_region 27 with fail
  rw [← hW14]
  clear hW14
  go_wp2_with fail
  refine (eqStore_any _ _ _ _ _ HH.out.1 HI14.out HH.out.2).mono ?_
  rintro e w15 ⟨rfl, hb15⟩
  have k315 : Below W3.heap.size W3 w15 := k314.trans (hb15.mono k314.size)
  go_wp2_with fail
  go_ret
  exact ⟨rfl, (hb0.trans (k0W3.mono (by omega))).trans (k315.mono (by have := k0W3.size; omega))⟩

theorem lifted (os : Os) (started : os.Started) (H : Type) (enc : TypeId × Value → H) :
    ReturnsInHanded {} Try.checked os 3 .any (Rows.fnExactSplitStoreSpec.pre6 enc Try.prog Try.f3 Rows.fnExactSplitStoreRow.domain false) (Rows.fnExactSplitStoreSpec.post enc Try.prog Try.f3 false true false false) := by
  refine returnsInHanded_of_change (C := Try.checked) own started (by kernel_rfl) Try.func3
    (ChangeSpec.witness6 (enc := enc) (C := Try.checked) false ⟨#[], #[.agg #[.slice none 0 0], .string ⟨#[]⟩], []⟩ 8 (by kernel_rfl) (by kernel_rfl) (by kernel_rfl) (by kernel_rfl)) ?_
  intro W base args ds gs before hval0 hW hcnd _
  have hval : ∀ (j : Nat) t v, Try.f3.params[j]? = some t → args[j]? = some v → Value.okWide Try.prog W .any base t v := hval0
  have hW' := hW
  obtain ⟨p, q, hA0, hV, rfl, hfz, hnd⟩ := hW
  have hA : DataW.TrodAll enc Try.prog W 0 (fun _ => true) true Try.f3.params.toList args.toList ds p := hA0
  rw [Try.params3] at hA hval
  obtain ⟨v0, vs0, d0, ds0, p0, q0, hargs, rfl, rfl, h0, r0⟩ := trodAll_cons hA
  obtain ⟨v1, vs1, d1, ds1, p1, q1, rfl, rfl, rfl, h1, r1⟩ := trodAll_cons r0
  obtain ⟨rfl, rfl, rfl⟩ := trodAll_nil r1
  obtain rfl : args = #[v0, v1] := by cases args; simp_all
  obtain ⟨rfl, rfl⟩ := trodVars_none hV
  have k0 := h0
  have lt0 : ∀ x ∈ p0, x.block < W.heap.size := by obtain ⟨m, hm⟩ := k0; exact DataW.trod_lt m _ _ _ hm
  obtain ⟨u, ts, rfl, hin, ok0⟩ := open_store (hval 0 24 v0 rfl rfl) h0
  have k1 := h1
  have lt1 : ∀ x ∈ p1, x.block < W.heap.size := by obtain ⟨m, hm⟩ := k1; exact DataW.trod_lt m _ _ _ hm
  obtain ⟨s, rfl, _, _, hs⟩ := open_string Try.underlying9 (hval 1 9 v1 rfl rfl) h1
  clear hA0 hval0
  refine (walk u ts s W hin ok0 hs).mono fun e W' ⟨he, bel⟩ => ?_
  subst he
  exact ⟨_, rfl, _, _, _, [], _, [], hW', trodAll_mk1 (shut_bool Try.underlying4 _), (trodAll_cons_mk (Below.trod laidOut (by kernel_rfl) (of_decide_eq_true (by kernel_rfl)) k0 bel lt0) (trodAll_cons_mk (Below.trod laidOut (by kernel_rfl) (of_decide_eq_true (by kernel_rfl)) k1 bel lt1) trodAll_mk0)), rfl, bel.frame _, fun h => by cases h⟩

theorem over : Rows.fnExactSplitStoreRow.holds Try.pinned (OpenSpec.ofChange Rows.fnExactSplitStoreSpec) :=
  OpenClaim.holds_of_wide 3 Try.f3 rfl rfl rfl rfl rfl rfl rfl ⟨rfl, rfl, rfl, rfl, rfl⟩ rfl rfl rfl rfl rfl (by kernel_rfl) Try.func3 (by kernel_rfl)
    (of_decide_eq_true (by kernel_rfl)) (by unfold Func.isWrapper; first | (rw [if_pos (by decide +kernel)]; kernel_rfl) | (rw [if_neg (by decide +kernel)]; exact ⟨rfl, rfl⟩))
    (fun os started H enc _ => lifted os started H enc)

end Go.Proofs.Ytlgeffinhbodeaf.exSplitStore
namespace Go.Proofs.Ytlgeffinhbodeaf
theorem exactSplitStore_holds : Rows.FnExactSplitStoreSaid := exSplitStore.over
#print axioms exactSplitStore_holds
end Go.Proofs.Ytlgeffinhbodeaf

