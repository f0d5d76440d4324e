import Derived.Test.YtlgeffinhbodeafPkAI
import Derived.Test.YtlgeffinhbodeafPkAH
import Derived.Test.YtlgeffinhbodeafPkAG
import Derived.Test.YtlgeffinhbodeafPkAD
import Derived.Test.YtlgeffinhbodeafPkAE
/-
  spec.SplitStore.
-/
namespace Go.Proofs.Ytlgeffinhbodeaf
open Go.ChangeShapes Go.WideShapes Go.ChangeAt Go.RowKit Go.Deep
set_option linter.unusedVariables false
set_option linter.unusedSimpArgs false
set_option maxRecDepth 100000

/-- What SplitStore of spec hands back. -/
def SpSPost (w : World) (tb : List Tb) (row : ByteArray) (e : Ending) (w' : World) : Prop := ∃ out, SplT tb row out ∧ CpSPost w out e w'

theorem CopyO.set {w : World} {base : Nat} {v : Value} {rs : List Rw} {ess : List (List Ent)} (h : CopyO w base v rs ess) (g o : Nat) (u : Value) (hlt : g < base) : CopyO (w.setCell ⟨g, o, none⟩ u) base v rs ess :=
  ⟨row_set h.row g o u hlt, ((h.ts ⟨#[]⟩).set g o u hlt).ents _ (List.mem_singleton.2 rfl), h.same⟩
set_option maxHeartbeats 8000000 in
theorem specSplit_store (b off cap : Nat) (ts : List Tm) (row : ByteArray) (w : World) (h : TmsAt w b off ts) (hok : okTs ts) (hB : b < w.heap.size) (hn : ts.length ≤ 1048576) (hrs : row.size ≤ 1048576) (hs : ∀ t ∈ ts, t.l.length ≤ 1048576 ∧ totM t.l ≤ 1048576) :
    Calls Try.prog 6 #[.agg #[.slice (some ⟨b, off, none⟩) ts.length cap], .string row] w fun e w' => SpSPost w (tbs ts) row e w' := by
  obtain ⟨Wa, hWa⟩ : ∃ Wa : World, Wa = (w.alloc (Obj.cells #[.slice (some ⟨b, off, none⟩) ts.length cap] 28)).alloc (Obj.cells #[.slice none 0 0] 28) := ⟨_, rfl⟩
  have hba : Below w.heap.size w Wa := by rw [hWa]; exact ((Below.refl _ _).alloc (Nat.le_refl _) _).alloc (by simp) _
  have hza : Wa.heap.size = w.heap.size + 1 + 1 := by rw [hWa]; simp
  have HWa : Hid (∀ wx, Below Wa.heap.size Wa wx → wx.cell? ⟨w.heap.size, 0, none⟩ = some (.slice (some ⟨b, off, none⟩) ts.length cap) ∧ wx.cell? ⟨w.heap.size + 1, 0, none⟩ = some (.slice none 0 0) ∧ wx.frozen? ⟨w.heap.size + 1, 0, none⟩ = false ∧ TmsAt wx b off ts ∧ b < wx.heap.size) := by
    intro wx hx
    have sx := hx.size
    refine ⟨?_, ?_, ?_, (h.below hba hB).below hx (by omega), by omega⟩
    · rw [hx.cell (p := ⟨w.heap.size, 0, none⟩) (by show w.heap.size < Wa.heap.size; omega), hWa]; simp [go_sem]
    · rw [hx.cell (p := ⟨w.heap.size + 1, 0, none⟩) (by show w.heap.size + 1 < Wa.heap.size; omega), hWa]; simp [go_sem]
    · rw [hx.frozen (p := ⟨w.heap.size + 1, 0, none⟩) (by show w.heap.size + 1 < Wa.heap.size; omega), hWa]; simp [go_sem]
  have HS : Hid (okTs ts ∧ ∀ t ∈ ts, t.l.length ≤ 1048576 ∧ totM t.l ≤ 1048576) := ⟨hok, hs⟩
  -- a copy of the store as it came
  have HCp : Hid (∀ W, Below Wa.heap.size Wa W → Calls Try.prog 23 #[.agg #[.slice (some ⟨b, off, none⟩) ts.length cap]] W fun e w' => ∃ (va : Option Addr) (vn vc : Nat), e = .returned (.agg #[.slice va vn vc]) ∧ w'.cell? ⟨w.heap.size + 1, 0, none⟩ = some (.slice none 0 0) ∧ w'.frozen? ⟨w.heap.size + 1, 0, none⟩ = false ∧ Hid (CpSPost w (tbs ts) (.returned (.agg #[.slice va vn vc])) (w'.setCell ⟨w.heap.size + 1, 0, none⟩ (.slice va vn vc)))) := by
    intro W hW
    obtain ⟨_, _, _, hT, hb'⟩ := HWa.out W hW
    have sW := hW.size
    refine (specCopy_core b off cap ts W hT hb' hn HS.out.2).mono ?_
    rintro e w3 ⟨v, xs, rfl, hS, hx, hb3⟩
    have hb3' : Below Wa.heap.size Wa w3 := hW.trans (hb3.mono sW)
    obtain ⟨_, q1, q2, _⟩ := HWa.out w3 hb3'
    obtain ⟨va, vn, vc, rfl, hc⟩ := st_in (w := w) (R := w.heap.size + 1) (by omega) (by omega) hS (hba.trans (hb3'.mono (by omega)))
    rw [hx] at hc
    exact ⟨va, vn, vc, rfl, q1, q2, hc⟩
  clear h hok hs
  obtain ⟨c0, _, _, hT0, hB0⟩ := HWa.out Wa (Below.refl _ _)
  have HT0 : Hid (TmsAt Wa b off ts) := hT0
  clear hT0
  go_enter Try.func6, Try.ntmps6
  go_upto_region 1 with fail
  rw [← hWa]
  clear hWa
  go_wp2_with fail
  refine (specValidStore_core b off cap ts _ HT0.out HS.out.1 hB0 hn).mono ?_
  rintro e w1 ⟨r, rfl, hr, hb1⟩
  have HR : Hid (r = true ↔ GoodS (tbs ts)) := hr
  have s1 := hb1.size
  clear hr c0
  obtain ⟨c0, _, _, hT1, hB1⟩ := HWa.out w1 hb1
  have HT1 : Hid (TmsAt w1 b off ts) := hT1
  clear hT1
  cases r
  · have H : Hid (SplT (tbs ts) row (tbs ts)) := splT_bad (fun q => Bool.noConfusion (HR.out.2 q))
    go_wp2_with fail
    refine (HCp.out _ hb1).mono ?_
    rintro e w3 ⟨va, vn, vc, rfl, q1, q2, hc⟩
    go_wp2_with fail
    exact bodyPost_ret (v := .agg #[.slice va vn vc]) (by simp [results, Try.results6, go_sem, q1]) rfl ⟨_, H.out, hc.out⟩
  have HG : Hid (GoodS (tbs ts)) := HR.out.1 rfl
  have hn100 : ts.length ≤ 100 := by have := HG.out.le; rw [tbs_len] at this; exact this
  by_cases hr0 : row.size = 0
  · have H : Hid (SplT (tbs ts) row (tbs ts)) := splT_empty HG.out hr0
    have z0 : ((row.size : Int) == 0) = true := by rw [beq_iff_eq]; omega
    have z0' : (row.size : Int) = 0 := by omega
    go_wp2_with fail
    refine (HCp.out _ hb1).mono ?_
    rintro e w3 ⟨va, vn, vc, rfl, q1, q2, hc⟩
    go_wp2_with fail
    exact bodyPost_ret (v := .agg #[.slice va vn vc]) (by simp [results, Try.results6, go_sem, q1]) rfl ⟨_, H.out, hc.out⟩
  have z0 : ¬ (row.size : Int) = 0 := by omega
  have z0b : ((row.size : Int) == 0) = false := by rw [beq_eq_false_iff_ne]; exact z0
  have z2n : (¬ ts.length = 100) → ¬ (ts.length : Int) = 100 := fun q => by omega
  by_cases hr64 : 64 < row.size
  · have H : Hid (SplT (tbs ts) row (tbs ts)) := splT_long hr64
    have z1 : (64 : Int) < (row.size : Int) := by omega
    go_wp2_with fail
    refine (HCp.out _ hb1).mono ?_
    rintro e w3 ⟨va, vn, vc, rfl, q1, q2, hc⟩
    go_wp2_with fail
    exact bodyPost_ret (v := .agg #[.slice va vn vc]) (by simp [results, Try.results6, go_sem, q1]) rfl ⟨_, H.out, hc.out⟩
  have z1 : ¬ (64 : Int) < (row.size : Int) := by omega
  by_cases hf : ts.length = 100
  · have H : Hid (SplT (tbs ts) row (tbs ts)) := splT_full (by rw [tbs_len]; exact hf)
    have z2 : ((ts.length : Int) == 100) = true := by rw [beq_iff_eq]; omega
    clear hf
    go_wp2_with fail
    refine (HCp.out _ hb1).mono ?_
    rintro e w3 ⟨va, vn, vc, rfl, q1, q2, hc⟩
    go_wp2_with fail
    exact bodyPost_ret (v := .agg #[.slice va vn vc]) (by simp [results, Try.results6, go_sem, q1]) rfl ⟨_, H.out, hc.out⟩
  have z2 : ((ts.length : Int) == 100) = false := by rw [beq_eq_false_iff_ne]; omega
  have HF : Hid (¬ ts.length = 100) := hf
  have z2c : ¬ (ts.length : Int) = 100 := z2n hf
  obtain ⟨i, hi⟩ := hold_ex HG.out row
  have HI : Hid (HoldAt (tbs ts) row i) := hi
  have hil : i < ts.length := by have := hi.1; rw [tbs_len] at this; exact this
  clear hi
  go_wp2_with fail
  refine (specHolder_core b off cap ts row i _ HT1.out hB1 hn HI.out).mono ?_
  rintro e w2 ⟨rfl, hb2'⟩
  have hb2 : Below Wa.heap.size Wa w2 := hb1.trans (hb2'.mono s1)
  have s2 := hb2.size
  clear hb2' c0
  obtain ⟨c0, _, _, hT2, hB2⟩ := HWa.out w2 hb2
  obtain ⟨t, ht⟩ : ∃ t, ts[i]? = some t := ⟨_, List.getElem?_eq_getElem hil⟩
  obtain ⟨c1, c2, _⟩ := hT2 i t ht
  have HTN : Hid (ts[i]? = some t) := ht
  have HTb : Hid ((tbs ts)[i]? = some t.tb) := by
    show (tbs ts)[i]? = some t.tb
    rw [tbs_get, ht]; rfl
  have htl : t.l.length ≤ 1048576 := (HS.out.2 t (List.mem_of_getElem? ht)).1
  clear ht hT2
  have zi : (i : Int) < (ts.length : Int) := by omega
  obtain ⟨W4, hW4⟩ : ∃ W4 : World, W4 = w2.alloc (Obj.cells #[.string t.lo, .slice (some ⟨t.b, t.off, none⟩) t.l.length t.cap] 60) := ⟨_, rfl⟩
  have hbW4 : Below w2.heap.size w2 W4 := by rw [hW4]; exact (Below.refl _ _).alloc (Nat.le_refl _) _
  have hz4 : W4.heap.size = w2.heap.size + 1 := by rw [hW4]; simp
  have k4 : Below Wa.heap.size Wa W4 := hb2.trans (hbW4.mono s2)
  have HK4 : Hid (∀ wx, Below W4.heap.size W4 wx → Below Wa.heap.size Wa wx ∧ wx.cell? ⟨w.heap.size, 0, none⟩ = some (.slice (some ⟨b, off, none⟩) ts.length cap) ∧ wx.cell? ⟨w2.heap.size, 0, none⟩ = some (.string t.lo) ∧ wx.cell? ⟨w2.heap.size, 1, none⟩ = some (.slice (some ⟨t.b, t.off, none⟩) t.l.length t.cap) ∧ t.at wx) := by
    intro wx hx
    have k := k4.trans (hx.mono k4.size)
    refine ⟨k, (HWa.out wx k).1, ?_, ?_, ((HWa.out wx k).2.2.2.1 i t HTN.out).2.2⟩
    · rw [hx.cell (p := ⟨w2.heap.size, 0, none⟩) (by show w2.heap.size < W4.heap.size; omega), hW4]; simp
    · rw [hx.cell (p := ⟨w2.heap.size, 1, none⟩) (by show w2.heap.size < W4.heap.size; omega), hW4]; simp
  go_upto_region 5 with fail
  rw [← hW4]
  clear hW4 c0 c1 c2
  obtain ⟨_, c0, c1, c2, _⟩ := HK4.out W4 (Below.refl _ _)
  by_cases hlo : t.lo = row
  · have H : Hid (SplT (tbs ts) row (tbs ts)) := splT_same HI.out HTb.out hlo
    have zb : (t.lo.toList == row.toList) = true := by rw [hlo]; simp
    have HLo : Hid (t.lo = row) := hlo
    clear hlo
    go_wp2_with fail
    refine (HCp.out _ k4).mono ?_
    rintro e w3 ⟨va, vn, vc, rfl, q1, q2, hc⟩
    go_wp2_with fail
    exact bodyPost_ret (v := .agg #[.slice va vn vc]) (by simp [results, Try.results6, go_sem, q1]) rfl ⟨_, H.out, hc.out⟩
  have zb : (t.lo.toList == row.toList) = false := by
    rw [beq_eq_false_iff_ne]
    intro q
    exact hlo (toList_inj q)
  go_upto_region 7 with fail
  have HT : Hid (∀ r ∈ t.l, r.es.length ≤ 1048576) := fun r hr => Nat.le_trans (totM_mem hr) (HS.out.2 t (List.mem_of_getElem? HTN.out)).2
  have HRn : Hid (∀ X, Below W4.heap.size W4 X → Calls Try.prog 25 #[.slice (some ⟨t.b, t.off, none⟩) t.l.length t.cap, .agg #[.string ⟨#[]⟩, .bool true, .string row]] X fun e w' => ∃ (g cp n : Nat) (rs : List Rw), e = .returned (.slice (some ⟨g, 0, none⟩) n cp) ∧ Hid (n = rs.length ∧ CopyO w' X.heap.size (.slice (some ⟨g, 0, none⟩) n cp) rs (keepP ⟨#[]⟩ true row (esM t.l)) ∧ Below X.heap.size X w' ∧ Below W4.heap.size W4 w')) := by
    intro X hX
    refine (specRuns_core t.u t.l ⟨#[]⟩ row true X (HK4.out X hX).2.2.2.2.ins htl HT.out).mono ?_
    rintro e w' ⟨g, cp, rs, rfl, hC, hb'⟩
    exact ⟨g, cp, rs.length, rs, rfl, rfl, hC, hb', hX.trans (hb'.mono hX.size)⟩
  go_cut [7] (fun p wx => ∃ (R g cp n : Nat) (rs : List Rw), p = .pointer (some ⟨R, 0, none⟩) ∧ wx.cell? ⟨R, 0, none⟩ = some (.string t.lo) ∧ wx.cell? ⟨R, 1, none⟩ = some (.slice (some ⟨g, 0, none⟩) n cp) ∧ n = rs.length ∧ R < wx.heap.size ∧ CopyO wx W4.heap.size (.slice (some ⟨g, 0, none⟩) n cp) rs (keepP ⟨#[]⟩ true row (esM t.l)) ∧ Below W4.heap.size W4 wx)
  case first =>
    have hS : (fun w' : World => w'.cell? ⟨w2.heap.size, 0, none⟩ = some (.string t.lo) ∧ w'.cell? ⟨w2.heap.size, 1, none⟩ = some (.slice (some ⟨t.b, t.off, none⟩) t.l.length t.cap)) W4.drew := by
      obtain ⟨_, _, q1, q2, _⟩ := HK4.out W4.drew ((Below.refl _ _).drew)
      exact ⟨q1, q2⟩
    refine wp_region_T 9 (fun w' : World => w'.cell? ⟨w2.heap.size, 0, none⟩ = some (.string t.lo) ∧ w'.cell? ⟨w2.heap.size, 1, none⟩ = some (.slice (some ⟨t.b, t.off, none⟩) t.l.length t.cap)) (by kernel_rfl) ?_
    refine anyT_take (i := 0) (v := ?vr0x1) rfl (by kernel_rfl) (by kernel_rfl) (by kernel_rfl) (by kernel_rfl) (by decide) (fun _ _ _ h => h) (Or.inl ⟨by rfl, ?yr0x1⟩) hS ?_
    case yr0x1 => (intro wz hSw; (try dsimp only at hSw); go_simp; (try with_reducible rfl))
    try simp only [Act.put, List.setIfInBounds_toArray, List.set_cons_zero, List.set_cons_succ]
    refine anyT_take (i := 1) (v := ?vr1x2) rfl (by kernel_rfl) (by kernel_rfl) (by kernel_rfl) (by kernel_rfl) (by decide) (fun _ _ _ h => h) (Or.inl ⟨by rfl, ?yr1x2⟩) hS ?_
    case yr1x2 => (intro wz hSw; (try dsimp only at hSw); go_simp; (try with_reducible rfl))
    try simp only [Act.put, List.setIfInBounds_toArray, List.set_cons_zero, List.set_cons_succ]
    refine anyT_take (i := 2) (v := ?vr2x3) rfl (by kernel_rfl) (by kernel_rfl) (by kernel_rfl) (by kernel_rfl) (by decide) (fun _ _ _ h => h) (Or.inl ⟨by rfl, ?yr2x3⟩) hS ?_
    case yr2x3 => (intro wz hSw; (try dsimp only at hSw); go_simp; (try with_reducible rfl))
    try simp only [Act.put, List.setIfInBounds_toArray, List.set_cons_zero, List.set_cons_succ]
    refine anyT_take (i := 3) (v := ?vr3x4) rfl (by kernel_rfl) (by kernel_rfl) (by kernel_rfl) (by kernel_rfl) (by decide) (fun _ _ _ h => h) (Or.inl ⟨by rfl, ?yr3x4⟩) hS ?_
    case yr3x4 => (intro wz hSw; (try dsimp only at hSw); go_simp; (try with_reducible rfl))
    try simp only [Act.put, List.setIfInBounds_toArray, List.set_cons_zero, List.set_cons_succ]
    refine anyT_take (i := 4) (v := ?vr4x5) rfl (by kernel_rfl) (by kernel_rfl) (by kernel_rfl) (by kernel_rfl) (by decide) (fun _ _ _ h => h) (Or.inl ⟨by rfl, ?yr4x5⟩) hS ?_
    case yr4x5 => (intro wz hSw; (try dsimp only at hSw); go_simp; (try with_reducible rfl))
    try simp only [Act.put, List.setIfInBounds_toArray, List.set_cons_zero, List.set_cons_succ]
    refine anyT_take (i := 5) (v := ?vr5x6) rfl (by kernel_rfl) (by kernel_rfl) (by kernel_rfl) (by kernel_rfl) (by decide) (fun _ _ _ h => h) (Or.inl ⟨by rfl, ?yr5x6⟩) hS ?_
    case yr5x6 => (intro wz hSw; (try dsimp only at hSw); go_simp; (try with_reducible rfl))
    try simp only [Act.put, List.setIfInBounds_toArray, List.set_cons_zero, List.set_cons_succ]
    refine anyT_two (i := 6) (j := 8) (by kernel_rfl) rfl rfl (fun K hK => ?_) (fun K hK => ?_)
    · go_simp
      go_at_call 25
      refine (HRn.out _ ((Below.refl _ _).drew)).mono ?_
      rintro e v1 ⟨g, cp, n, rs, rfl, HC⟩
      obtain ⟨_, _, q1, q2, _⟩ := HK4.out v1 HC.out.2.2.2
      refine hK.out _ _ (.inr ⟨q1, q2⟩) ?_
      clear hK
      try simp only [Act.put, List.setIfInBounds_toArray, List.set_cons_zero, List.set_cons_succ]
      refine anyT_take (i := 7) (v := ?vr7x7) rfl (by kernel_rfl) (by kernel_rfl) (by kernel_rfl) (by kernel_rfl) (by decide) (fun _ _ _ h => h) (Or.inl ⟨by rfl, ?yr7x7⟩) (show _ ∧ _ from ⟨q1, q2⟩) ?_
      case yr7x7 => (intro wz hSw; (try dsimp only at hSw); go_simp; (try with_reducible rfl))
      try simp only [Act.put, List.setIfInBounds_toArray, List.set_cons_zero, List.set_cons_succ]
      refine anyT_one (i := 8) (by kernel_rfl) rfl (fun K hK => ?_)
      go_simp
      obtain ⟨_, _, p1, p2, _⟩ := HK4.out (v1.alloc (Obj.cells #[.string ⟨#[]⟩, .slice none 0 0] 60)) (HC.out.2.2.2.alloc HC.out.2.2.2.size _)
      refine hK.out _ _ (.inr ⟨p1, p2⟩) ?_
      clear hK
      try simp only [Act.put, List.setIfInBounds_toArray, List.set_cons_zero, List.set_cons_succ]
      refine anyT_one (i := 9) (by kernel_rfl) rfl (fun K hK => ?_)
      go_simp
      refine hK.out _ _ (.inl rfl) ?_
      clear hK
      try simp only [Act.put, List.setIfInBounds_toArray, List.set_cons_zero, List.set_cons_succ]
      refine anyT_done (by kernel_rfl) ?_
      go_wp2_with fail
      go_meet
      have hbf : Below v1.heap.size v1 (v1.alloc (Obj.cells #[.string t.lo, .slice (some ⟨g, 0, none⟩) n cp] 60)) := (Below.refl _ _).alloc (Nat.le_refl _) _
      exact ⟨v1.heap.size, g, cp, n, rs, rfl, by simp, by simp, HC.out.1, by simp, (HC.out.2.1.below hbf).mono (by simp), HC.out.2.2.2.trans (hbf.mono HC.out.2.2.2.size)⟩
    · go_simp
      obtain ⟨W5, hW5⟩ : ∃ W5 : World, W5 = (W4.alloc (Obj.cells #[.string ⟨#[]⟩, .slice none 0 0] 60)).drew := ⟨_, rfl⟩
      have hb5 : Below W4.heap.size W4 W5 := by rw [hW5]; exact ((Below.refl _ _).alloc (Nat.le_refl _) _).drew
      have hz5 : W5.heap.size = W4.heap.size + 1 := by rw [hW5]; simp
      have HZ5 : Hid (∀ wx, Below W5.heap.size W5 wx → wx.cell? ⟨W4.heap.size, 0, none⟩ = some (.string ⟨#[]⟩) ∧ wx.cell? ⟨W4.heap.size, 1, none⟩ = some (.slice none 0 0) ∧ wx.frozen? ⟨W4.heap.size, 0, none⟩ = false ∧ wx.frozen? ⟨W4.heap.size, 1, none⟩ = false) := by
        intro wx hx
        refine ⟨?_, ?_, ?_, ?_⟩
        · rw [hx.cell (p := ⟨W4.heap.size, 0, none⟩) (by show W4.heap.size < W5.heap.size; omega), hW5]; simp
        · rw [hx.cell (p := ⟨W4.heap.size, 1, none⟩) (by show W4.heap.size < W5.heap.size; omega), hW5]; simp
        · rw [hx.frozen (p := ⟨W4.heap.size, 0, none⟩) (by show W4.heap.size < W5.heap.size; omega), hW5]; simp
        · rw [hx.frozen (p := ⟨W4.heap.size, 1, none⟩) (by show W4.heap.size < W5.heap.size; omega), hW5]; simp
      obtain ⟨_, _, q1, q2, _⟩ := HK4.out W5 hb5
      rw [← hW5]
      refine hK.out _ _ (.inr ⟨q1, q2⟩) ?_
      clear hK hW5
      try simp only [Act.put, List.setIfInBounds_toArray, List.set_cons_zero, List.set_cons_succ]
      refine anyT_one (i := 6) (by kernel_rfl) rfl (fun K hK => ?_)
      go_simp
      go_at_call 25
      refine (HRn.out W5 hb5).mono ?_
      rintro e v1 ⟨g, cp, n, rs, rfl, HC⟩
      obtain ⟨_, _, p1, p2, _⟩ := HK4.out v1 HC.out.2.2.2
      obtain ⟨y0, y1, y2, y3⟩ := HZ5.out v1 HC.out.2.2.1
      rw [hz4] at y0 y1 y2 y3
      refine hK.out _ _ (.inr ⟨p1, p2⟩) ?_
      clear hK
      try simp only [Act.put, List.setIfInBounds_toArray, List.set_cons_zero, List.set_cons_succ]
      refine anyT_take (i := 7) (v := ?vr7x8) rfl (by kernel_rfl) (by kernel_rfl) (by kernel_rfl) (by kernel_rfl) (by decide) (fun _ _ _ h => h) (Or.inl ⟨by rfl, ?yr7x8⟩) (show _ ∧ _ from ⟨p1, p2⟩) ?_
      case yr7x8 => (intro wz hSw; (try dsimp only at hSw); go_simp; (try with_reducible rfl))
      try simp only [Act.put, List.setIfInBounds_toArray, List.set_cons_zero, List.set_cons_succ]
      refine anyT_one (i := 9) (by kernel_rfl) rfl (fun K hK => ?_)
      go_simp
      refine hK.out _ _ (.inl rfl) ?_
      clear hK
      try simp only [Act.put, List.setIfInBounds_toArray, List.set_cons_zero, List.set_cons_succ]
      refine anyT_done (by kernel_rfl) ?_
      go_wp2_with fail
      go_meet
      obtain ⟨c1, c2, c3, c4⟩ := HC.out
      have k5 := c3.size
      refine ⟨w2.heap.size + 1, g, cp, n, rs, rfl, by simp [go_sem, y0, y1], by simp [go_sem, y0, y1], c1, by simp; omega, ((c2.set (w2.heap.size + 1) 0 (.string t.lo) (by omega)).set (w2.heap.size + 1) 1 (.slice (some ⟨g, 0, none⟩) n cp) (by omega)).mono (by omega), (c4.setCell (by show W4.heap.size ≤ w2.heap.size + 1; omega) _).setCell (by show W4.heap.size ≤ w2.heap.size + 1; omega) _⟩
  case rest =>
    obtain ⟨R, g1, cp1, n1, rs1, rfl, a0, a1, an1, aR, aC, aB⟩ := hcut
    have HA : Hid (n1 = rs1.length ∧ CopyO wc W4.heap.size (.slice (some ⟨g1, 0, none⟩) n1 cp1) rs1 (keepP ⟨#[]⟩ true row (esM t.l))) := ⟨an1, aC⟩
    clear an1 aC c0 c1 c2 HRn
    obtain ⟨_, d0, d1, d2, _⟩ := HK4.out wc aB
    have sB := aB.size
    have HR2 : Hid (Calls Try.prog 25 #[.slice (some ⟨t.b, t.off, none⟩) t.l.length t.cap, .agg #[.string row, .bool false, .string ⟨#[]⟩]] wc fun e w' => ∃ (g cp n : Nat) (rs : List Rw), e = .returned (.slice (some ⟨g, 0, none⟩) n cp) ∧ Hid (n = rs.length ∧ CopyO w' wc.heap.size (.slice (some ⟨g, 0, none⟩) n cp) rs (keepP row false ⟨#[]⟩ (esM t.l)) ∧ Below wc.heap.size wc w')) := by
      refine (specRuns_core t.u t.l row ⟨#[]⟩ false wc (HK4.out wc aB).2.2.2.2.ins htl HT.out).mono ?_
      rintro e w' ⟨g, cp, rs, rfl, hC, hb'⟩
      exact ⟨g, cp, rs.length, rs, rfl, rfl, hC, hb'⟩
    go_wp2_with fail
    refine HR2.out.mono ?_
    rintro e v1 ⟨g2, cp2, n2, rs2, rfl, HC2⟩
    obtain ⟨W6, hW6⟩ : ∃ W6 : World, W6 = v1.alloc (Obj.cells #[.string row, .slice (some ⟨g2, 0, none⟩) n2 cp2] 60) := ⟨_, rfl⟩
    have hb6 : Below v1.heap.size v1 W6 := by rw [hW6]; exact (Below.refl _ _).alloc (Nat.le_refl _) _
    have hz6 : W6.heap.size = v1.heap.size + 1 := by rw [hW6]; simp
    have sv := HC2.out.2.2.size
    have e0 : W6.cell? ⟨v1.heap.size, 0, none⟩ = some (.string row) := by rw [hW6]; simp
    have e1 : W6.cell? ⟨v1.heap.size, 1, none⟩ = some (.slice (some ⟨g2, 0, none⟩) n2 cp2) := by rw [hW6]; simp
    have hbc6 : Below wc.heap.size wc W6 := HC2.out.2.2.trans (hb6.mono sv)
    have f0 : W6.cell? ⟨R, 0, none⟩ = some (.string t.lo) := by rw [hbc6.cell (p := ⟨R, 0, none⟩) (by exact aR)]; exact a0
    have f1 : W6.cell? ⟨R, 1, none⟩ = some (.slice (some ⟨g1, 0, none⟩) n1 cp1) := by rw [hbc6.cell (p := ⟨R, 1, none⟩) (by exact aR)]; exact a1
    have k6 : Below W4.heap.size W4 W6 := aB.trans (hbc6.mono sB)
    obtain ⟨b6, h0, _⟩ := HK4.out W6 k6
    have HAB : Hid (n1 = rs1.length ∧ n2 = rs2.length ∧ CopyO W6 Wa.heap.size (.slice (some ⟨g1, 0, none⟩) n1 cp1) rs1 (keepP ⟨#[]⟩ true row (esM t.l)) ∧ CopyO W6 Wa.heap.size (.slice (some ⟨g2, 0, none⟩) n2 cp2) rs2 (keepP row false ⟨#[]⟩ (esM t.l))) := by
      obtain ⟨q1, q2⟩ := HA.out
      obtain ⟨p1, p2, p3⟩ := HC2.out
      have s4 := k4.size
      exact ⟨q1, p1, (q2.below hbc6).mono s4, (p2.below hb6).mono (by omega)⟩
    clear a0 a1 d0 d1 d2
    have s6 := b6.size
    have hwr : IntKind.i64.wrap ((i : Int) + 1) = (i : Int) + 1 := by rw [IntKind.wrap_i64]; omega
    obtain ⟨W7, hW7⟩ : ∃ W7 : World, W7 = W6.alloc (Obj.cells #[.string t.lo, .slice (some ⟨g1, 0, none⟩) n1 cp1, .string row, .slice (some ⟨g2, 0, none⟩) n2 cp2] 60) := ⟨_, rfl⟩
    have hb7 : Below W6.heap.size W6 W7 := by rw [hW7]; exact (Below.refl _ _).alloc (Nat.le_refl _) _
    have hz7 : W7.heap.size = W6.heap.size + 1 := by rw [hW7]; simp
    have k7 : Below Wa.heap.size Wa W7 := b6.trans (hb7.mono s6)
    have HRep : Hid (Calls Try.prog 26 #[.agg #[.slice (some ⟨b, off, none⟩) ts.length cap], .int .i64 i, .int .i64 ((i : Int) + 1), .slice (some ⟨W6.heap.size, 0, none⟩) 2 2] W7 fun e w' => ∃ (va : Option Addr) (vn vc : Nat), e = .returned (.agg #[.slice va vn vc]) ∧ w'.cell? ⟨w.heap.size + 1, 0, none⟩ = some (.slice none 0 0) ∧ w'.frozen? ⟨w.heap.size + 1, 0, none⟩ = false ∧ Hid (SpSPost w (tbs ts) row (.returned (.agg #[.slice va vn vc])) (w'.setCell ⟨w.heap.size + 1, 0, none⟩ (.slice va vn vc)))) := by
      obtain ⟨_, _, _, hT, hb'⟩ := HWa.out W7 k7
      have s7 := k7.size
      have hts : OwnTs W7 Wa.heap.size [⟨t.lo, .slice (some ⟨g1, 0, none⟩) n1 cp1, rs1⟩, ⟨row, .slice (some ⟨g2, 0, none⟩) n2 cp2, rs2⟩] := (OwnTs.append (HAB.out.2.2.1.ts t.lo) (HAB.out.2.2.2.ts row)).below hb7
      have hcall := specReplace_core b off cap ts [⟨t.lo, .slice (some ⟨g1, 0, none⟩) n1 cp1, rs1⟩, ⟨row, .slice (some ⟨g2, 0, none⟩) n2 cp2, rs2⟩] i (i + 1) W6.heap.size Wa.heap.size W7 hT hb' (fun j u hu => by
        match j with
        | 0 => simp at hu; subst hu; exact ⟨by rw [hW7]; simp, by rw [hW7]; simp⟩
        | 1 => simp at hu; subst hu; exact ⟨by rw [hW7]; simp, by rw [hW7]; simp⟩
        | j + 2 => simp at hu) (by omega) hts s7 (by omega) (by simp) (by simp) (by omega) (by omega) (by omega) HS.out.2
      rw [show ((i + 1 : Nat) : Int) = (i : Int) + 1 by omega] at hcall
      refine hcall.mono ?_
      rintro e w3 ⟨v, ys, rfl, hrow, hys, htb, hb3⟩
      have hb3' : Below Wa.heap.size Wa w3 := k7.trans (hb3.mono s7)
      obtain ⟨_, q1, q2, _⟩ := HWa.out w3 hb3'
      have hSt : OwnSt w3 Wa.heap.size v ys := ⟨trow_mono hrow s7, hys.runs, hys.ents⟩
      obtain ⟨va, vn, vc, rfl, hc⟩ := st_in (w := w) (R := w.heap.size + 1) (by omega) (by omega) hSt (hba.trans (hb3'.mono (by omega)))
      refine ⟨va, vn, vc, rfl, q1, q2, _, splT_done HG.out (by omega) (by rw [tbs_len]; exact HF.out) HI.out HTb.out hlo, ?_⟩
      have he : ys.map Tx.tb = cutT (tbs ts) i t.tb row := by
        rw [htb]
        unfold tbs cutT
        rw [List.map_take, List.map_drop]
        have r1 := HAB.out.2.2.1.same
        have r2 := HAB.out.2.2.2.same
        simp only [List.map_cons, List.map_nil, Tx.tb, r1, r2]
        rfl
      rw [← he]
      exact hc
    go_upto_region 9 with fail
    rw [← hW6]
    clear hW6 hz6 hz7
    go_wp2_with fail
    rw [← hW7]
    clear hW7
    refine HRep.out.mono ?_
    rintro e w9 ⟨va, vn, vc, rfl, q1, q2, hc⟩
    go_wp2_with fail
    exact bodyPost_ret (v := .agg #[.slice va vn vc]) (by simp [results, Try.results6, go_sem, q1]) rfl hc.out
end Go.Proofs.Ytlgeffinhbodeaf

/-
  impl.MergeStore.
-/
namespace Go.Proofs.Ytlgeffinhbodeaf
open Go.ChangeShapes Go.WideShapes Go.ChangeAt Go.RowKit Go.Deep
set_option linter.unusedVariables false
set_option linter.unusedSimpArgs false
set_option maxRecDepth 100000

theorem tms_ty (ts : List Tm) : (ts.map Tm.ty).map Ty.tb = tbs ts := by
  unfold tbs
  rw [List.map_map]
  apply List.map_congr_left
  intro t _
  rfl
/-- Copied as it is, into the result's variable. -/
theorem copy_in {w w3 : World} {tb : List Tb} {e : Ending} {W : World} (R : Nat) (hb : Below w.heap.size w W) (hR : w.heap.size ≤ R) (hRl : R < W.heap.size) (h : CpIPost W tb e w3) :
    ∃ (g cp : Nat) (xs : List Tx), e = .returned (.agg #[.slice (some ⟨g, 0, none⟩) xs.length cp]) ∧ Below W.heap.size W w3 ∧ CpIPost w tb (.returned (.agg #[.slice (some ⟨g, 0, none⟩) xs.length cp])) (w3.setCell ⟨R, 0, none⟩ (.slice (some ⟨g, 0, none⟩) xs.length cp)) := by
  obtain ⟨g, cp, xs, rfl, hS, hA, hE, hb3⟩ := h
  refine ⟨g, cp, xs, rfl, hb3, g, cp, xs, rfl, ?_, hA, hE, (hb.trans (hb3.mono hb.size)).setCell hR _⟩
  have h5 := hS.chg (Chg.of_set w3 R 0 (.slice (some ⟨g, 0, none⟩) xs.length cp) (S := fun k => k = R) rfl) (fun k hk _ q => by omega)
  exact h5.mono hb.size

theorem inRms_cat {w : World} {base : Nat} {v : Value} {l : List Rm} (h : w.ownsRow base 101 1 v l.length (l.map Rm.u)) (hr : ∀ r ∈ l, r.at w) : InRms w v l := by
  rcases h.2 with ⟨q, q2⟩ | ⟨g, cp, cur, q, q2, q3, hc1, hc2, _⟩
  · exact .inl ⟨none, 0, q, List.eq_nil_of_length_eq_zero q2⟩
  · subst q
    refine .inr ⟨g, 0, cp, rfl, fun i r hi => ⟨?_, hr r (List.mem_of_getElem? hi)⟩, (World.ownsRow.lt h g rfl).2, hc1, hc2⟩
    have hl := (List.getElem?_eq_some_iff.1 hi).1
    have := World.ownsRow.cellAt h i (by omega)
    rw [List.getElem?_map, hi] at this
    rw [Nat.zero_add]
    exact this

theorem inRms_set {w : World} {va : Option Addr} {vn vc : Nat} {l : List Rm} {R o : Nat} {x : Value} (h : InRms w (.slice va vn vc) l) (hv : ∀ g, va = some g → g.block ≠ R ∨ l = []) (hl : ∀ r ∈ l, r.b ≠ R) : InRms (w.setCell ⟨R, o, none⟩ x) (.slice va vn vc) l := by
  rcases h with ⟨a, c, hq, rfl⟩ | ⟨b, off, cap, hq, hE, hlt, h1, h2⟩
  · exact .inl ⟨a, c, hq, rfl⟩
  · by_cases hn : l = []
    · subst hn
      exact .inl ⟨_, _, hq, rfl⟩
    · cases hq
      refine .inr ⟨b, off, vc, rfl, fun i r hi => ?_, by simpa using hlt, h1, h2⟩
      have hb : b ≠ R := (hv _ rfl).resolve_right hn
      have hr := hl r (List.mem_of_getElem? hi)
      obtain ⟨k1, k2⟩ := hE i r hi
      refine ⟨by rw [World.cell?_setCell_far _ _ _ _ (by exact fun q => hb q.symm)]; exact k1, ⟨fun j e he => ?_, by simpa using k2.lt, k2.len, k2.cap⟩⟩
      obtain ⟨q0, q1, q2, q3, q4, q5⟩ := k2.ents j e he
      refine ⟨?_, ?_, ?_, ?_, ?_, ?_⟩
      all_goals rw [World.cell?_setCell_far _ _ _ _ (by exact fun q => hr q.symm)]
      · exact q0
      · exact q1
      · exact q2
      · exact q3
      · exact q4
      · exact q5
/-- What MergeStore of impl hands back. -/
def MgIPost (w : World) (tb : List Tb) (row : ByteArray) (e : Ending) (w' : World) : Prop := ∃ out, MrgT tb row out ∧ CpIPost w out e w'

end Go.Proofs.Ytlgeffinhbodeaf

/-
  toTablet, toTabletS, toStore.
-/
namespace Go.Proofs.Ytlgeffinhbodeaf
open Go.ChangeShapes Go.WideShapes Go.ChangeAt Go.RowKit Go.Deep
set_option linter.unusedVariables false
set_option linter.unusedSimpArgs false
set_option maxRecDepth 100000

set_option maxHeartbeats 1000000 in
theorem toTablet_any (t : Tn) (w : World) (h : InRuns w t.u t.rs) (h1 : t.rs.length + tot t.rs ≤ 1048576) :
    Calls Try.prog 62 #[.agg #[.string t.lo, t.u]] w fun e w' =>
      ∃ (g : Nat) (l : List (Nat × List Ent)), e = .returned (.agg #[.string t.lo, .slice (some ⟨g, 0, none⟩) l.length l.length]) ∧ OwnRuns w' w.heap.size g l ∧ l.map Prod.snd = esOf t.rs ∧ l.length + totL l ≤ 1048576 ∧ Below w.heap.size w w' := by
  have HE : Hid (InRuns w t.u t.rs) := h
  have hu := h.ucells
  clear h
  go_enter Try.func62, Try.ntmps62
  go_wp2_with fail
  refine (toRuns_own t.u t.rs _ (HE.out.below ((((Below.refl _ _).alloc (Nat.le_refl _) _).alloc (by simp) _).alloc (by simp; omega) _)) h1).mono ?_
  rintro e w1 ⟨g, l, rfl, hO, hm, hn, hb1⟩
  obtain ⟨hc1, hf1⟩ := bcell hb1
  have k1 : Below w.heap.size w w1 := ((((Below.refl _ _).alloc (Nat.le_refl _) (Obj.cells #[.string t.lo, t.u] 97)).alloc (by simp) (Obj.cells #[.string ⟨#[]⟩, .slice none 0 0] 60)).alloc (by simp; omega) (Obj.cells #[.string t.lo, .slice none 0 0] 60)).trans (hb1.mono (by simp; omega))
  have HO : Hid (OwnRuns w1 (w.heap.size + 1 + 1 + 1) g l ∧ l.map Prod.snd = esOf t.rs ∧ l.length + totL l ≤ 1048576) := by
    refine ⟨?_, hm, hn⟩
    simpa using hO
  clear hO hm hn
  go_wp2_with fail
  refine bodyPost_ret (v := .agg #[.string t.lo, .slice (some ⟨g, 0, none⟩) l.length l.length]) (by simp [results, Try.results62, go_sem, hc1]) rfl ⟨g, l, rfl, ?_, HO.out.2.1, HO.out.2.2, ?_⟩
  · have hl := HO.out.1.lt.1
    exact (((HO.out.1.setNe _ _ _ (by omega)).setNe _ _ _ (by omega)).setNe _ _ _ (by omega)).mono (by omega)
  · exact ((k1.setCell (by show w.heap.size ≤ w.heap.size + 1 + 1; omega) _).setCell (by show w.heap.size ≤ w.heap.size + 1; omega) _).setCell (by show w.heap.size ≤ w.heap.size + 1; omega) _

theorem OwnTabs.setNe {w : World} {base g : Nat} {l : List Tw} (h : OwnTabs w base g l) (q o : Nat) (x : Value) (hq : q < g) : OwnTabs (w.setCell ⟨q, o, none⟩ x) base g l :=
  ⟨World.ownsRow.kept h.row (grown_set w q o x) (.inr (fun z => by have : g = q := Option.some.inj z; omega)), fun t ht => (h.tabs t ht).setNe _ _ _ (by have := h.ne t ht; omega), h.ne, h.up, h.short⟩
theorem OwnTabs.mono {w : World} {base base' g : Nat} {ts : List Tw} (h : OwnTabs w base g ts) (hb : base' ≤ base) : OwnTabs w base' g ts :=
  ⟨h.row.mono hb, fun t ht => (h.tabs t ht).mono hb, h.ne, h.up, h.short⟩

set_option maxHeartbeats 2000000 in
theorem toTabletS_any (v : Value) (ts : List Tn) (w : World) (h : InTabs w v ts) (h1 : ts.length + totT ts ≤ 1048576) :
    Calls Try.prog 27 #[v] w fun e w' =>
      ∃ (g : Nat) (l : List Tw), e = .returned (.slice (some ⟨g, 0, none⟩) l.length l.length) ∧ OwnTabs w' w.heap.size g l ∧ l.map Tw.tb = ts.map Tn.tb ∧ Below w.heap.size w w' := by
  obtain ⟨i, hi, hz0, hz1, hz2⟩ := info_parts Try.infoTab
  have HI : Hid (Try.prog.info? 60 = some i ∧ i.zero = some (.agg #[.string ⟨#[]⟩, .slice none 0 0]) ∧ i.size = 2 ∧ i.bytes = 40) := ⟨hi, hz0, hz1, hz2⟩
  clear hi hz0 hz1 hz2
  rcases h with ⟨a, cap, rfl, rfl⟩ | ⟨b, off, cap, rfl, hE, hB, hlen, hcap⟩
  · go_enter Try.func27, Try.ntmps27
    go_wp2_with (at_make; refine wpList_make_full _ rfl _ _ 26 rfl w.heap.size 60 i _ 2 Try.underlying26 HI.out.1 HI.out.2.1 HI.out.2.2.1 _ _ _ _ 0 rfl rfl ?_ ?_ ?hb ?hm ?hs ?_)
    case hb => rw [HI.out.2.2.2]; omega
    case hm => unfold maxLen; omega
    case hs => exact Nat.le_refl _
    · rfl
    · rfl
    intro w1 hown hgrow
    have HW : Hid (OwnP w1 w.heap.size w.heap.size 0 []) := by
      have h0 := made_tabs 0
      rw [Nat.zero_mul] at h0
      rw [h0] at hown
      exact hown
    have hb1 : Below w.heap.size w w1 := (Below.refl _ _).grown hgrow (Nat.le_refl _) (fun k hk => by cases hk)
    clear hown hgrow
    go_wp2_with fail
    go_loopw [4] (fun i wr => i = .int .i64 0 ∧ wr = w1) (fun i _ => 0)
    case atStart => exact ⟨rfl, rfl⟩
    case round =>
      obtain ⟨rfl, rfl⟩ := hrel
      go_wp2_with fail
      go_ret
      exact ⟨_, [], rfl, ⟨HW.out, fun p hp => by simp at hp, fun p hp => by simp at hp, List.Pairwise.nil, fun p hp => by simp at hp⟩, rfl, hb1⟩
  · have HE : Hid (TabsAt w b off ts) := hE
    clear hE
    unfold maxLen at hcap
    go_enter Try.func27, Try.ntmps27
    go_wp2_with (at_make; refine wpList_make_full _ rfl _ _ 26 rfl w.heap.size 60 i _ 2 Try.underlying26 HI.out.1 HI.out.2.1 HI.out.2.2.1 _ _ _ _ ts.length rfl rfl ?_ ?_ ?hb ?hm ?hs ?_)
    case hb => rw [HI.out.2.2.2]; omega
    case hm => unfold maxLen; omega
    case hs => exact Nat.le_refl _
    · rfl
    · rfl
    intro w1 hown hgrow
    rw [made_tabs] at hown
    have hown1 : OwnP w1 w.heap.size w.heap.size ts.length (List.replicate ts.length zeroP) := by
      unfold OwnP; rw [List.length_replicate]; exact hown
    have HW : Hid (OwnP w1 w.heap.size w.heap.size ts.length (List.replicate ts.length zeroP)) := hown1
    have hb1 : Below w.heap.size w w1 := (Below.refl _ _).grown hgrow (Nat.le_refl _) (fun k hk => by cases hk)
    have hs1 := hown1.lt.2
    clear hown hown1 hgrow
    go_wp2_with fail
    go_loopw [4] (fun i wr => ∃ (k : Nat) (l : List Tw), k ≤ ts.length ∧ i = .int .i64 k ∧ l.length = k ∧ l.map Tw.tb = (ts.take k).map Tn.tb ∧ OwnP wr w.heap.size w.heap.size ts.length (l.map Tw.pr ++ List.replicate (ts.length - k) zeroP) ∧
        (∀ t ∈ l, OwnRuns wr w.heap.size t.g t.l ∧ w.heap.size < t.g ∧ t.l.length + totL t.l ≤ 1048576) ∧ l.Pairwise (fun a b => a.g < b.g ∧ ∀ p ∈ a.l, p.1 < b.g) ∧ Below w.heap.size w wr) (fun i _ => ts.length - (intOf i).toNat)
    case atStart => exact ⟨0, [], Nat.zero_le _, rfl, rfl, rfl, HW.out, fun p hp => by simp at hp, List.Pairwise.nil, hb1⟩
    case round =>
      obtain ⟨k, l, hk, rfl, hlk, hes, hR, hO, hup, hb⟩ := hrel
      have HL : Hid (l.length = k ∧ l.map Tw.tb = (ts.take k).map Tn.tb ∧ OwnP wr w.heap.size w.heap.size ts.length (l.map Tw.pr ++ List.replicate (ts.length - k) zeroP) ∧
        (∀ t ∈ l, OwnRuns wr w.heap.size t.g t.l ∧ w.heap.size < t.g ∧ t.l.length + totL t.l ≤ 1048576) ∧ l.Pairwise (fun a b => a.g < b.g ∧ ∀ p ∈ a.l, p.1 < b.g)) := ⟨hlk, hes, hR, hO, hup⟩
      have hg := hR.lt
      have hsz := hb.size
      clear hlk hes hR hO hup
      by_cases hlt : k < ts.length
      · obtain ⟨t, ht⟩ : ∃ t, ts[k]? = some t := ⟨_, List.getElem?_eq_getElem hlt⟩
        obtain ⟨c0, c1, hin⟩ := (HE.out.below hb hB) k t ht
        have HR : Hid (ts[k]? = some t ∧ InRuns wr t.u t.rs ∧ t.rs.length + tot t.rs ≤ 1048576) := ⟨ht, hin, wt_le (by have := totT_mem ht; omega)⟩
        clear ht hin
        go_wp2_with fail
        refine (toTablet_any t _ HR.out.2.1 HR.out.2.2).mono ?_
        rintro e w2 ⟨g', l', rfl, hO', hm', hn', hb2⟩
        have hR2 := HL.out.2.2.1.below hb2 hg.2
        have hs2 := hb2.size
        have hg' := hO'.lt
        have hul : (l.map Tw.pr).length = k := by simp [HL.out.1]
        have hz : (l.map Tw.pr ++ List.replicate (ts.length - k) zeroP)[k]? = some zeroP := by
          rw [List.getElem?_append_right (by omega), hul, Nat.sub_self, List.getElem?_replicate, if_pos (by omega)]
        obtain ⟨d0, d1⟩ := hR2.cells hz
        have hfz := fun j => World.ownsRow.frozenAt hR2 j
        unfold zeroP at d0 d1
        simp only at d0 d1
        have HN : Hid (∃ L : List Tw, L.length = k + 1 ∧ L.map Tw.tb = (ts.take (k + 1)).map Tn.tb ∧ OwnP ((w2.setCell ⟨w.heap.size, k * 2, none⟩ (.string t.lo)).setCell ⟨w.heap.size, k * 2 + 1, none⟩ (.slice (some ⟨g', 0, none⟩) l'.length l'.length)) w.heap.size w.heap.size ts.length (L.map Tw.pr ++ List.replicate (ts.length - (k + 1)) zeroP) ∧
            (∀ t' ∈ L, OwnRuns ((w2.setCell ⟨w.heap.size, k * 2, none⟩ (.string t.lo)).setCell ⟨w.heap.size, k * 2 + 1, none⟩ (.slice (some ⟨g', 0, none⟩) l'.length l'.length)) w.heap.size t'.g t'.l ∧ w.heap.size < t'.g ∧ t'.l.length + totL t'.l ≤ 1048576) ∧ L.Pairwise (fun a b => a.g < b.g ∧ ∀ p ∈ a.l, p.1 < b.g)) := by
          refine ⟨l ++ [⟨t.lo, g', l'⟩], by simp [HL.out.1], ?_, ?_, ?_, ?_⟩
          · rw [tbs_take HR.out.1, List.map_append, HL.out.2.1]
            show _ ++ [Tb.mk t.lo (l'.map Prod.snd)] = _ ++ [Tb.mk t.lo (esOf t.rs)]
            rw [hm']
          · have := hR2.put k zeroP (t.lo, .slice (some ⟨g', 0, none⟩) l'.length l'.length) hz
            rw [← prs_set (t := ⟨t.lo, g', l'⟩) HL.out.1 hlt]; exact this
          · intro p hp
            rcases List.mem_append.1 hp with hp | hp
            · obtain ⟨q1, q2, q3⟩ := HL.out.2.2.2.1 p hp
              exact ⟨((q1.below hb2).setNe _ _ _ q2).setNe _ _ _ q2, q2, q3⟩
            · simp at hp
              subst hp
              exact ⟨((hO'.setNe _ _ _ (by omega)).setNe _ _ _ (by omega)).mono (by omega), by show w.heap.size < g'; omega, hn'⟩
          · refine List.pairwise_append.2 ⟨HL.out.2.2.2.2, by simp, fun p hp q hq => ?_⟩
            simp at hq
            subst hq
            obtain ⟨q1, q2, q3⟩ := HL.out.2.2.2.1 p hp
            refine ⟨?_, fun x hx => ?_⟩
            · have := q1.lt
              show p.g < g'
              omega
            · have := (q1.rows.2 x hx).lt
              show x.1 < g'
              omega
        have hb3 : Below w.heap.size w ((w2.setCell ⟨w.heap.size, k * 2, none⟩ (.string t.lo)).setCell ⟨w.heap.size, k * 2 + 1, none⟩ (.slice (some ⟨g', 0, none⟩) l'.length l'.length)) := ((hb.trans (hb2.mono hsz)).setCell (by show w.heap.size ≤ w.heap.size; omega) _).setCell (by show w.heap.size ≤ w.heap.size; omega) _
        clear hR2 hO' hb2 c0 c1 hul hz hm' hn'
        go_wp2_with fail
        go_roundw
        case rel =>
          go_light
          obtain ⟨L, a1, a2, a3, a4, a5⟩ := HN.out
          exact ⟨k + 1, L, by omega, by go_num, a1, a2, a3, a4, a5, hb3⟩
        case measure => simp [intOf]; omega
      · have hkr : k = ts.length := by omega
        have HF : Hid (l.length = ts.length ∧ l.map Tw.tb = ts.map Tn.tb ∧ OwnP wr w.heap.size w.heap.size ts.length (l.map Tw.pr)) := by
          have h2 := HL.out.2.1
          have h3 := HL.out.2.2.1
          rw [List.take_of_length_le (by omega)] at h2
          rw [show ts.length - k = 0 by omega] at h3
          simp at h3
          exact ⟨by rw [HL.out.1, hkr], h2, h3⟩
        clear hkr
        go_wp2_with fail
        go_ret
        refine ⟨_, l, ?_, ⟨?_, fun t ht => (HL.out.2.2.2.1 t ht).1, fun t ht => (HL.out.2.2.2.1 t ht).2.1, HL.out.2.2.2.2, fun t ht => (HL.out.2.2.2.1 t ht).2.2⟩, HF.out.2.1, hb⟩
        · rw [HF.out.1]; rfl
        · rw [HF.out.1]; exact HF.out.2.2

set_option maxHeartbeats 400000 in
theorem toStore_any (u : Value) (ts : List Tn) (w : World) (h : InTabs w u ts) (h1 : ts.length + totT ts ≤ 1048576) :
    Calls Try.prog 7 #[.agg #[u]] w fun e w' =>
      ∃ (g : Nat) (l : List Tw), e = .returned (.agg #[.slice (some ⟨g, 0, none⟩) l.length l.length]) ∧ OwnTabs w' w.heap.size g l ∧ l.map Tw.tb = ts.map Tn.tb ∧ Below w.heap.size w w' := by
  have HE : Hid (InTabs w u ts) := h
  have hu := h.ucells
  clear h
  go_enter Try.func7, Try.ntmps7
  go_wp2_with fail
  refine (toTabletS_any u ts _ (HE.out.below ((((Below.refl _ _).alloc (Nat.le_refl _) _).alloc (by simp) _).alloc (by simp; omega) _)) h1).mono ?_
  rintro e w1 ⟨g, l, rfl, hO, hm, hb1⟩
  obtain ⟨hc1, hf1⟩ := bcell hb1
  have k1 : Below w.heap.size w w1 := ((((Below.refl _ _).alloc (Nat.le_refl _) (Obj.cells #[u] 24)).alloc (by simp) (Obj.cells #[.slice none 0 0] 28)).alloc (by simp; omega) (Obj.cells #[.slice none 0 0] 28)).trans (hb1.mono (by simp; omega))
  have HO : Hid (OwnTabs w1 (w.heap.size + 1 + 1 + 1) g l ∧ l.map Tw.tb = ts.map Tn.tb) := by
    refine ⟨?_, hm⟩
    simpa using hO
  clear hO hm
  go_wp2_with fail
  refine bodyPost_ret (v := .agg #[.slice (some ⟨g, 0, none⟩) l.length l.length]) (by simp [results, Try.results7, go_sem, hc1]) rfl ⟨g, l, rfl, ?_, HO.out.2, ?_⟩
  · have hl := HO.out.1.lt.1
    exact ((HO.out.1.setNe _ _ _ (by omega)).setNe _ _ _ (by omega)).mono (by omega)
  · exact (k1.setCell (by show w.heap.size ≤ w.heap.size + 1 + 1; omega) _).setCell (by show w.heap.size ≤ w.heap.size + 1; omega) _
end Go.Proofs.Ytlgeffinhbodeaf

/-
  What the law FnExactMergeStore needs besides: stores that are marked, and how much they hold.
-/
namespace Go.Proofs.Ytlgeffinhbodeaf
open Go.ChangeShapes Go.WideShapes Go.ChangeAt Go.RowKit Go.Deep
set_option linter.unusedVariables false
set_option linter.unusedSimpArgs false

/-- How much a stack of runs holds. -/
def szR : List (List Ent) → Nat
  | [] => 0
  | e :: es => 1 + e.length + szR es
theorem szR_append : ∀ (a b : List (List Ent)), szR (a ++ b) = szR a + szR b
  | [], b => by simp [szR]
  | e :: a, b => by simp [szR, szR_append a b]; omega
theorem szR_len : ∀ (a : List (List Ent)), a.length ≤ szR a
  | [] => Nat.le_refl _
  | e :: a => by have := szR_len a; simp [szR]; omega
def szB : List Tb → Nat
  | [] => 0
  | t :: ts => szR t.rs + szB ts
theorem szB_append : ∀ (a b : List Tb), szB (a ++ b) = szB a + szB b
  | [], b => by simp [szB]
  | e :: a, b => by simp [szB, szB_append a b]; omega
theorem szB_mem {a : List Tb} {t : Tb} (h : t ∈ a) : szR t.rs ≤ szB a := by
  obtain ⟨x, y, rfl⟩ := List.append_of_mem h
  rw [szB_append]
  simp [szB]
  omega
theorem split_two {ts : List Tb} {i : Nat} {a b : Tb} (ha : ts[i]? = some a) (hb : ts[i + 1]? = some b) : ts = ts.take i ++ a :: b :: ts.drop (i + 2) := by
  obtain ⟨h1, h2⟩ := List.getElem?_eq_some_iff.1 ha
  obtain ⟨h3, h4⟩ := List.getElem?_eq_some_iff.1 hb
  rw [← h2, ← h4]
  conv => lhs; rw [← List.take_append_drop i ts]
  congr 1
  rw [List.drop_eq_getElem_cons h1, List.drop_eq_getElem_cons h3]
theorem szB_two {ts : List Tb} {i : Nat} {a b : Tb} (ha : ts[i]? = some a) (hb : ts[i + 1]? = some b) : szR a.rs + szR b.rs ≤ szB ts := by
  rw [split_two ha hb, szB_append]
  simp [szB]
  omega
theorem mrgT_sz {ts out : List Tb} {row : ByteArray} (h : MrgT ts row out) : szB out ≤ szB ts ∧ out.length ≤ ts.length := by
  by_cases hg : GoodS ts
  · obtain ⟨i, hi⟩ := hold_ex hg row
    by_cases hl : i + 1 = ts.length
    · rw [h.last hg i hi hl]; exact ⟨Nat.le_refl _, Nat.le_refl _⟩
    · have ha := List.getElem?_eq_getElem hi.1
      have hb := List.getElem?_eq_getElem (show i + 1 < ts.length by have := hi.1; omega)
      by_cases hf : 50 < (ts[i]'hi.1).rs.length + (ts[i + 1]'(by have := hi.1; omega)).rs.length
      · rw [h.full hg i _ _ hi ha hb hf]; exact ⟨Nat.le_refl _, Nat.le_refl _⟩
      · rw [h.done hg i _ _ hi ha hb (by omega)]
        have h1 := split_two ha hb
        have h2 := congrArg szB h1
        have h3 := congrArg List.length h1
        rw [szB_append] at h2
        simp only [szB, List.length_append, List.length_cons] at h2 h3
        rw [szB_append, szB_append]
        simp only [szB, List.length_append, List.length_cons, List.length_nil, szR_append]
        omega
  · rw [h.bad hg]; exact ⟨Nat.le_refl _, Nat.le_refl _⟩
theorem szR_tot : ∀ (rs : List Rn), szR (esOf rs) = rs.length + tot rs
  | [] => rfl
  | r :: rs => by
    have := szR_tot rs
    unfold esOf at this ⊢
    simp [szR, tot, this]
    omega
theorem szB_tn : ∀ (ts : List Tn), szB (ts.map Tn.tb) ≤ totT ts
  | [] => Nat.le_refl _
  | t :: ts => by
    have := szB_tn ts
    have h2 := szR_tot t.rs
    simp [szB, totT, Tn.tb, wt] at this ⊢
    omega
theorem szR_totM : ∀ (l : List Rm), szR (esM l) = l.length + totM l
  | [] => rfl
  | r :: l => by
    have := szR_totM l
    unfold esM at this ⊢
    simp [szR, totM, this]
    omega
theorem totM_append : ∀ (a b : List Rm), totM (a ++ b) = totM a + totM b
  | [], b => by simp [totM]
  | r :: a, b => by simp [totM, totM_append a b]; omega
theorem szR_totW : ∀ (l : List Rw), szR (l.map Rw.es) = l.length + totW l
  | [] => rfl
  | r :: l => by
    have := szR_totW l
    simp [szR, totW, this]
    omega
theorem totX_sz : ∀ (xs : List Tx), totX xs ≤ xs.length + 6 * szB (xs.map Tx.tb)
  | [] => Nat.le_refl _
  | t :: xs => by
    have := totX_sz xs
    have h2 := szR_totW t.rs
    simp [totX, szB, wx, Tx.tb] at this ⊢
    omega
theorem tx_ok {xs : List Tx} (h : szB (xs.map Tx.tb) ≤ 1048576) : ∀ t ∈ xs, totW t.rs ≤ 1048576 ∧ t.rs.length ≤ 1048576 := by
  intro t ht
  have h1 := szB_mem (List.mem_map.2 ⟨t, ht, rfl⟩ : t.tb ∈ xs.map Tx.tb)
  have h2 := szR_totW t.rs
  simp [Tx.tb] at h1
  omega
theorem tm_ok {ts : List Tm} (h : szB (tbs ts) ≤ 1048576) : ∀ t ∈ ts, t.l.length ≤ 1048576 ∧ totM t.l ≤ 1048576 := by
  intro t ht
  have h1 := szB_mem (List.mem_map.2 ⟨t, ht, rfl⟩ : t.tb ∈ ts.map Tm.tb)
  have h2 := szR_totM t.l
  unfold tbs at h
  have h3 : szR t.tb.rs = szR (esM t.l) := rfl
  omega
theorem tm_two {ts : List Tm} (h : szB (tbs ts) ≤ 1048576) : ∀ (i : Nat) (t n : Tm), ts[i]? = some t → ts[i + 1]? = some n → totM (t.l ++ n.l) ≤ 1048576 := by
  intro i t n ht hn
  have h1 := szB_two (ts := tbs ts) (i := i) (a := t.tb) (b := n.tb) (by rw [tbs_get, ht]; rfl) (by rw [tbs_get, hn]; rfl)
  have h2 := szR_totM t.l
  have h3 := szR_totM n.l
  have h4 : szR t.tb.rs = szR (esM t.l) := rfl
  have h5 : szR n.tb.rs = szR (esM n.l) := rfl
  rw [totM_append]
  omega

/-- A store that the law has made, as one that may be marked. -/
def Tw.tx (t : Tw) : Tx := ⟨t.lo, .slice (some ⟨t.g, 0, none⟩) t.l.length t.l.length, t.l.map fun p => ⟨.slice (some ⟨p.1, 0, none⟩) p.2.length p.2.length, p.2, some p.1⟩⟩
theorem tx_pr (ts : List Tw) : (ts.map Tw.tx).map Tx.pr = ts.map Tw.pr := by
  rw [List.map_map]
  apply List.map_congr_left
  intro t _
  rfl
theorem tx_tb (ts : List Tw) : (ts.map Tw.tx).map Tx.tb = ts.map Tw.tb := by
  rw [List.map_map]
  apply List.map_congr_left
  intro t _
  simp [Tw.tx, Tx.tb, Tw.tb, Function.comp_def]
theorem OwnTabs.st {w : World} {base g : Nat} {ts : List Tw} (h : OwnTabs w base g ts) : OwnSt w base (.slice (some ⟨g, 0, none⟩) ts.length ts.length) (ts.map Tw.tx) := by
  refine ⟨.inr ⟨g, ts.length, by rw [List.length_map], by rw [tx_pr]; exact h.row⟩, fun t ht => ?_, fun t ht r hr => ?_⟩
  · obtain ⟨p, hp, rfl⟩ := List.mem_map.1 ht
    have h1 := (h.tabs p hp).row
    refine .inr ⟨p.g, p.l.length, by simp [Tw.tx], ?_⟩
    unfold OwnR at h1
    have e1 : (usOf p.l).length = p.l.length := by simp [usOf]
    have e2 : p.tx.rs.map Rw.u = usOf p.l := by simp [Tw.tx, usOf, Function.comp_def]
    have e3 : p.tx.rs.length = p.l.length := by simp [Tw.tx]
    rw [e1] at h1
    rw [e2, e3]
    exact h1
  · obtain ⟨p, hp, rfl⟩ := List.mem_map.1 ht
    simp only [Tw.tx, List.mem_map] at hr
    obtain ⟨q, hq, rfl⟩ := hr
    exact .inr ⟨q.1, q.2.length, rfl, rfl, (h.tabs p hp).rows.2 q hq⟩
theorem OwnTabs.apart {w : World} {base g : Nat} {ts : List Tw} (h : OwnTabs w base g ts) : ApartT (ts.map Tw.tx) := by
  unfold ApartT Apart
  rw [List.flatMap_map, List.pairwise_flatMap]
  refine ⟨fun t ht => ?_, ?_⟩
  · show (t.l.map _).Pairwise _
    rw [List.pairwise_map]
    refine (h.tabs t ht).rows.1.imp ?_
    intro p q hpq k h1 h2
    have e1 : p.1 = k := Option.some.inj h1
    have e2 : q.1 = k := Option.some.inj h2
    omega
  · have hu : ts.Pairwise fun a b => (a ∈ ts ∧ b ∈ ts) ∧ a.g < b.g ∧ ∀ p ∈ a.l, p.1 < b.g := by
      have := h.up
      rw [List.pairwise_iff_forall_sublist] at this ⊢
      intro a b hab
      exact ⟨⟨hab.subset (by simp), hab.subset (by simp)⟩, this hab⟩
    refine hu.imp ?_
    rintro a b ⟨⟨ha, hb⟩, h1, h2⟩ x hx y hy k hk hk'
    simp only [Tw.tx, List.mem_map] at hx hy
    obtain ⟨p, hp, rfl⟩ := hx
    obtain ⟨q, hq, rfl⟩ := hy
    have e1 : p.1 = k := Option.some.inj hk
    have e2 : q.1 = k := Option.some.inj hk'
    have h3 := h2 p hp
    have h4 := (h.tabs b hb).ne q hq
    omega
theorem vwX (xs : List Tx) : vwT (xs.map Tx.tn) = (xs.map Tx.tb).map fun t => (t.lo, t.rs) := by
  unfold vwT
  rw [List.map_map, List.map_map]
  apply List.map_congr_left
  intro t ht
  simp [Tx.tn, Tx.tb, esOf, Rw.rn, Function.comp_def]
theorem vwX_eq {l l' : List Tx} (h : l.map Tx.tb = l'.map Tx.tb) : vwT (l.map Tx.tn) = vwT (l'.map Tx.tn) := by rw [vwX, vwX, h]
/-- What the law's own copy shows is what came in. -/
theorem tms_tns {l : List Tw} {ts : List Tn} (h : l.map Tw.tb = ts.map Tn.tb) : tbs (l.map Tw.tm) = ts.map Tn.tb := by
  unfold tbs
  rw [tms_tbs, h]
end Go.Proofs.Ytlgeffinhbodeaf

/-
  impl's runsIn: the parts of a tablet's runs whose rows are in a range, without the empty ones.
-/
namespace Go.Proofs.Ytlgeffinhbodeaf
open Go.ChangeShapes Go.WideShapes Go.ChangeAt Go.RowKit Go.Deep
set_option linter.unusedVariables false
set_option linter.unusedSimpArgs false
set_option maxRecDepth 100000

/-- Runs of a row of the call's own, their entries elsewhere. -/
structure PartsO (w : World) (base B : Nat) (v : Value) (ps : List Rm) (ess : List (List Ent)) : Prop where
  row : w.ownsRow base 101 1 v (ps.map Rm.u).length (ps.map Rm.u)
  ents : ∀ p ∈ ps, p.at w ∧ p.b < B
  same : esM ps = ess
theorem at_below {B : Nat} {w w' : World} {p : Rm} (h : p.at w) (hb : Below B w w') (hlt : p.b < B) : p.at w' := ⟨h.ents.below hb hlt, by have := hb.size; have := h.lt; omega, h.len, h.cap⟩
theorem PartsO.below {w w' : World} {base B : Nat} {v : Value} {ps : List Rm} {ess : List (List Ent)} (h : PartsO w base B v ps ess) (hb : Below w.heap.size w w') : PartsO w' base B v ps ess :=
  ⟨row_below h.row hb, fun p hp => ⟨(h.ents p hp).1.below hb, (h.ents p hp).2⟩, h.same⟩
theorem PartsO.mono {w : World} {base base' B : Nat} {v : Value} {ps : List Rm} {ess : List (List Ent)} (h : PartsO w base B v ps ess) (hb : base' ≤ base) : PartsO w base' B v ps ess :=
  ⟨row_mono h.row hb, h.ents, h.same⟩
theorem PartsO.snoc {w w2 w3 : World} {base B : Nat} {v v' : Value} {ps : List Rm} {ess : List (List Ent)} {p : Rm} (h : PartsO w base B v ps ess) (hb : Below w.heap.size w w2) (hp : p.at w2) (hpB : p.b < B) (hB : B ≤ base)
    (hA : AppR w2 w3 base v v' (ps.map Rm.u) [p.u]) (hbase : base ≤ w2.heap.size) : PartsO w3 base B v' (ps ++ [p]) (ess ++ [p.es]) := by
  have h2 := h.below hb
  have hb3 : Below B w2 w3 := (Below.refl _ _).grown hA.grown (by omega) (fun j hj => by have := row_blk h2.row j hj; omega)
  refine ⟨by rw [List.map_append]; exact hA.row, fun q hq => ?_, ?_⟩
  · rcases List.mem_append.1 hq with q' | q'
    · exact ⟨at_below (h2.ents q q').1 hb3 (h2.ents q q').2, (h2.ents q q').2⟩
    · simp at q'
      subst q'
      exact ⟨at_below hp hb3 hpB, hpB⟩
  · have := h.same
    unfold esM at this ⊢
    rw [List.map_append, this]; rfl
def RnPost (w : World) (B : Nat) (ess : List (List Ent)) (e : Ending) (w' : World) : Prop := ∃ g cp ps, e = .returned (.slice (some ⟨g, 0, none⟩) ps.length cp) ∧ PartsO w' w.heap.size B (.slice (some ⟨g, 0, none⟩) ps.length cp) ps ess ∧ Below w.heap.size w w'

set_option maxHeartbeats 4000000 in
theorem implRunsIn_core (lo0 : ByteArray) (b off cap : Nat) (l : List Rm) (lo hi : ByteArray) (hh : Bool) (w : World) (h : RmsAt w b off l) (hB : b < w.heap.size) (hn : l.length ≤ 1048576) (hg : ∀ r ∈ l, GoodR r.es) (B : Nat) (hlB : ∀ r ∈ l, r.b < B) (hBw : B ≤ w.heap.size) :
    Calls Try.prog 31 #[.agg #[.string lo0, .slice (some ⟨b, off, none⟩) l.length cap], .agg #[.string lo, .bool hh, .string hi]] w fun e w' => RnPost w B (keepP lo hh hi (esM l)) e w' := by
  obtain ⟨Wa, hWa⟩ : ∃ Wa : World, Wa = ((w.alloc (Obj.cells #[.string lo0, .slice (some ⟨b, off, none⟩) l.length cap] 60)).alloc (Obj.cells #[.string lo, .bool hh, .string hi] 63)).alloc (Obj.cells #[] 101) := ⟨_, rfl⟩
  have hba : Below w.heap.size w Wa := by rw [hWa]; exact (((Below.refl _ _).alloc (Nat.le_refl _) _).alloc (by simp) _).alloc (by simp; omega) _
  have hza : Wa.heap.size = w.heap.size + 1 + 1 + 1 := by rw [hWa]; simp
  have HO0 : Hid (PartsO Wa (w.heap.size + 1 + 1) B (.slice (some ⟨w.heap.size + 1 + 1, 0, none⟩) 0 0) [] []) := by
    have h1 := ownR_empty ((w.alloc (Obj.cells #[.string lo0, .slice (some ⟨b, off, none⟩) l.length cap] 60)).alloc (Obj.cells #[.string lo, .bool hh, .string hi] 63)) (w.heap.size + 1 + 1) (by simp)
    rw [← hWa, show ((w.alloc (Obj.cells #[.string lo0, .slice (some ⟨b, off, none⟩) l.length cap] 60)).alloc (Obj.cells #[.string lo, .bool hh, .string hi] 63)).heap.size = w.heap.size + 1 + 1 by simp] at h1
    exact ⟨h1, fun r hr => by simp at hr, rfl⟩
  have HC : Hid (∀ wx, Below (w.heap.size + 1 + 1) Wa wx → wx.cell? ⟨w.heap.size + 1, 0, none⟩ = some (.string lo) ∧ wx.cell? ⟨w.heap.size + 1, 1, none⟩ = some (.bool hh) ∧ wx.cell? ⟨w.heap.size + 1, 2, none⟩ = some (.string hi) ∧ RmsAt wx b off l) := by
    intro wx hx
    refine ⟨?_, ?_, ?_, h.below (hba.trans (hx.mono (by omega))) hB⟩
    · rw [hx.cell (p := ⟨w.heap.size + 1, 0, none⟩) (by show w.heap.size + 1 < w.heap.size + 1 + 1; omega), hWa]; simp [go_sem]
    · rw [hx.cell (p := ⟨w.heap.size + 1, 1, none⟩) (by show w.heap.size + 1 < w.heap.size + 1 + 1; omega), hWa]; simp [go_sem]
    · rw [hx.cell (p := ⟨w.heap.size + 1, 2, none⟩) (by show w.heap.size + 1 < w.heap.size + 1 + 1; omega), hWa]; simp [go_sem]
  have HG : Hid ((∀ r ∈ l, GoodR r.es) ∧ ∀ r ∈ l, r.b < B) := ⟨hg, hlB⟩
  clear h hg hlB
  go_enter Try.func31, Try.ntmps31
  go_wp2_with fail
  rw [← hWa]
  clear hWa
  go_loopw [5, 13] (fun o i wr => ∃ (k g cp : Nat) (ps : List Rm), k ≤ l.length ∧ i = .int .i64 k ∧ o = .slice (some ⟨g, 0, none⟩) ps.length cp ∧ PartsO wr (w.heap.size + 1 + 1) B (.slice (some ⟨g, 0, none⟩) ps.length cp) ps (keepP lo hh hi (esM (l.take k))) ∧ Below (w.heap.size + 1 + 1) Wa wr) (fun _ i _ => l.length - (intOf i).toNat)
  case atStart => exact ⟨0, w.heap.size + 1 + 1, 0, [], Nat.zero_le _, rfl, rfl, HO0.out, Below.refl _ _⟩
  case round =>
    obtain ⟨k, g, cp, ps, hk, rfl, rfl, hC, hb⟩ := hrel
    have HR : Hid (PartsO wr (w.heap.size + 1 + 1) B (.slice (some ⟨g, 0, none⟩) ps.length cp) ps (keepP lo hh hi (esM (l.take k)))) := hC
    have hrl : ps.length ≤ 1048576 := by
      have h1 := congrArg List.length hC.same
      rw [List.length_map] at h1
      have h2 := keepP_len lo hi hh l k
      omega
    have hsz := hb.size
    clear hC
    by_cases hlt : k < l.length
    · obtain ⟨r, hr⟩ : ∃ r, l[k]? = some r := ⟨_, List.getElem?_eq_getElem hlt⟩
      have HD : Hid (l[k]? = some r ∧ GoodR r.es ∧ r.b < B) := ⟨hr, HG.out.1 r (List.mem_of_getElem? hr), HG.out.2 r (List.mem_of_getElem? hr)⟩
      obtain ⟨_, _, _, hat⟩ := HC.out wr hb
      obtain ⟨c0, _⟩ := hat k r hr
      clear hr hat
      have zk : (k : Int) < (l.length : Int) := by omega
      obtain ⟨W1, hW1⟩ : ∃ W1 : World, W1 = wr.alloc (Obj.cells #[.slice (some ⟨r.b, r.off, none⟩) r.es.length r.cap] 101) := ⟨_, rfl⟩
      have hb1 : Below wr.heap.size wr W1 := by rw [hW1]; exact (Below.refl _ _).alloc (Nat.le_refl _) _
      have k1 : Below (w.heap.size + 1 + 1) Wa W1 := hb.trans (hb1.mono (by omega))
      have cr : W1.cell? ⟨wr.heap.size, 0, none⟩ = some (.slice (some ⟨r.b, r.off, none⟩) r.es.length r.cap) := by rw [hW1]; simp
      obtain ⟨e0, e1, e2, hat1⟩ := HC.out W1 k1
      have HA1 : Hid (r.at W1) := (hat1 k r HD.out.1).2
      clear hat1
      go_upto_region 5 with fail
      rw [← hW1]
      clear hW1
      go_wp2_with fail
      refine (entriesIn_core r lo hi hh _ HA1.out HD.out.2.1).mono ?_
      rintro e v1 ⟨p, rfl, hpa, hpp, hbv⟩
      have kr1 : Below wr.heap.size wr v1 := hb1.trans (hbv.mono hb1.size)
      have kv1 : Below (w.heap.size + 1 + 1) Wa v1 := k1.trans (hbv.mono (by have := hb1.size; omega))
      have s1 := kr1.size
      have HP : Hid (p.at v1 ∧ p.b < B ∧ p.es = inP lo hh hi r.es) := ⟨hpa, by rw [hpp.blk]; exact HD.out.2.2, partOf_filter hpp HD.out.2.1⟩
      have hpl : p.es.length ≤ 1048576 := by have h1 := hpp.len; have h2 := HD.out.2.1.1.1; omega
      clear hpa hpp cr e0 e1 e2 c0
      by_cases hp : 0 < p.es.length
      · have zp : (0 : Int) < (p.es.length : Int) := by omega
        obtain ⟨W2, hW2⟩ : ∃ W2 : World, W2 = v1.alloc (Obj.cells #[.slice (some ⟨p.b, p.off, none⟩) p.es.length p.cap] 101) := ⟨_, rfl⟩
        have hb2 : Below v1.heap.size v1 W2 := by rw [hW2]; exact (Below.refl _ _).alloc (Nat.le_refl _) _
        have kr2 : Below wr.heap.size wr W2 := kr1.trans (hb2.mono s1)
        have HR2 : Hid (W2.ownsRow (w.heap.size + 1 + 1) 101 1 (.slice (some ⟨g, 0, none⟩) ps.length cp) (ps.map Rm.u).length (ps.map Rm.u)) := (HR.out.below kr2).row
        have HN1 : Hid (∀ j u, [Value.slice (some ⟨p.b, p.off, none⟩) p.es.length p.cap][j]? = some u → W2.cell? ⟨v1.heap.size, 0 + j, none⟩ = some u) := by rw [hW2]; exact one_cell_new
        have s2 := hb2.size
        go_wp2_with (at_builtin; rw [← hW2]; refine wpList_append_runO _ rfl _ _ rfl (w.heap.size + 1 + 1) (.slice (some ⟨g, 0, none⟩) ps.length cp) (ps.map Rm.u) v1.heap.size 0 1 1 [.slice (some ⟨p.b, p.off, none⟩) p.es.length p.cap] rfl rfl rfl HR2.out HN1.out ?h1 ?hl ?hb ?_)
        case h1 => intro u hu; simp at hu; subst hu; rfl
        case hl => simp; omega
        case hb => omega
        intro v' w3 hA3
        obtain ⟨g3, cp3, rfl⟩ := hA3.form (by intro q; cases q)
        have hA4 : AppR W2 w3 (w.heap.size + 1 + 1) (.slice (some ⟨g, 0, none⟩) ps.length cp) (.slice (some ⟨g3, 0, none⟩) (ps.map Rm.u ++ [Value.slice (some ⟨p.b, p.off, none⟩) p.es.length p.cap]).length cp3) (ps.map Rm.u) [p.u] := by rw [hW2]; exact hA3
        have hz : (ps.map Rm.u ++ [Value.slice (some ⟨p.b, p.off, none⟩) p.es.length p.cap]).length = ps.length + 1 := by simp
        rw [hz] at hA4 ⊢
        have HN : Hid (PartsO w3 (w.heap.size + 1 + 1) B (.slice (some ⟨g3, 0, none⟩) (ps.length + 1) cp3) (ps ++ [p]) (keepP lo hh hi (esM (l.take (k + 1)))) ∧ Below (w.heap.size + 1 + 1) Wa w3) := by
          have h1 := HR.out.snoc kr2 (HP.out.1.below hb2) HP.out.2.1 (by omega) hA4 (by omega)
          have e1 : keepP lo hh hi (esM (l.take k)) ++ [p.es] = keepP lo hh hi (esM (l.take (k + 1))) := by
            rw [keepP_yes HD.out.1 (by rw [← HP.out.2.2]; exact hp), ← HP.out.2.2]
          rw [e1] at h1
          exact ⟨h1, (kv1.trans (hb2.mono (by omega))).grown hA4.grown (by omega) (fun j hj => row_blk HR2.out j hj)⟩
        clear hA3 hA4 hz hW2
        go_wp2_with fail
        go_roundw
        case rel =>
          go_light
          exact ⟨k + 1, g3, cp3, ps ++ [p], by omega, by go_num, by simp, by rw [List.length_append]; exact HN.out.1, HN.out.2⟩
        case measure => go_light; simp [intOf]; omega
      · have zp : ¬ (0 : Int) < (p.es.length : Int) := by omega
        have HN : Hid (PartsO v1 (w.heap.size + 1 + 1) B (.slice (some ⟨g, 0, none⟩) ps.length cp) ps (keepP lo hh hi (esM (l.take (k + 1))))) := by
          rw [keepP_no HD.out.1 (by rw [← HP.out.2.2]; exact hp)]
          exact HR.out.below kr1
        go_wp2_with fail
        go_roundw
        case rel =>
          go_light
          exact ⟨k + 1, g, cp, ps, by omega, by go_num, rfl, HN.out, kv1⟩
        case measure => go_light; simp [intOf]; omega
    · have zk : ¬ (k : Int) < (l.length : Int) := by omega
      have H : Hid (PartsO wr w.heap.size B (.slice (some ⟨g, 0, none⟩) ps.length cp) ps (keepP lo hh hi (esM l))) := by
        have h1 := HR.out
        rw [List.take_of_length_le (by omega)] at h1
        exact h1.mono (by omega)
      go_wp2_with fail
      go_ret
      exact ⟨g, cp, ps, rfl, H.out, hba.trans (hb.mono (by omega))⟩
end Go.Proofs.Ytlgeffinhbodeaf

