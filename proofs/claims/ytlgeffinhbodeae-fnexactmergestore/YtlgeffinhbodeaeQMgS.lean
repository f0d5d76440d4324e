/-
  spec.MergeStore.
-/
import Derived.Test.YtlgeffinhbodeaeQRpS
import Derived.Test.YtlgeffinhbodeaeQMgM
import Derived.Test.YtlgeffinhbodeaeQRpI
import Derived.Test.YtlgeffinhbodeaeQVStS
import Derived.BigQuiet
namespace Go.Proofs.Ytlgeffinhbodeae
open Go.ChangeShapes Go.WideShapes Go.ChangeAt Go.RowKit Go.Deep
set_option linter.unusedVariables false
set_option linter.unusedSimpArgs false
set_option maxRecDepth 100000

/-- A store of the call's own, laid into the result's variable. -/
theorem st_in {w w3 : World} {base R : Nat} {v : Value} {xs : List Tx} (hR : w.heap.size ≤ R) (hRl : R < base) (h : OwnSt w3 base v xs) (hb : Below w.heap.size w w3) :
    ∃ va vn vc, v = .slice va vn vc ∧ CpSPost w (xs.map Tx.tb) (.returned (.agg #[.slice va vn vc])) (w3.setCell ⟨R, 0, none⟩ (.slice va vn vc)) := by
  obtain ⟨va, vn, vc, rfl⟩ : ∃ va vn vc, v = .slice va vn vc := by
    rcases h.row with ⟨_, a, c, q⟩ | ⟨g, cp, q, _⟩ <;> exact ⟨_, _, _, q⟩
  refine ⟨va, vn, vc, rfl, _, xs, rfl, ?_, rfl, hb.setCell hR _⟩
  have h5 := h.chg (Chg.of_set w3 R 0 (.slice va vn vc) (S := fun k => k = R) rfl) (fun k hk _ q => by omega)
  exact h5.mono (by omega)
theorem trow_mono {w : World} {base base' : Nat} {v : Value} {ts : List Tx} (h : OwnTRow w base v ts) (hb : base' ≤ base) : OwnTRow w base' v ts := by
  rcases h with h | ⟨g, cp, hv, hO⟩
  · exact .inl h
  · exact .inr ⟨g, cp, hv, row_mono hO hb⟩
/-- A copied row of runs. -/
structure CopyO (w : World) (base : Nat) (v : Value) (rs : List Rw) (ess : List (List Ent)) : Prop where
  row : w.ownsRow base 30 1 v (rs.map Rw.u).length (rs.map Rw.u)
  ents : ∀ r ∈ rs, OwnK w base r
  same : rs.map Rw.es = ess
theorem CopyO.below {w w' : World} {base : Nat} {v : Value} {rs : List Rw} {ess : List (List Ent)} (h : CopyO w base v rs ess) (hb : Below w.heap.size w w') : CopyO w' base v rs ess :=
  ⟨row_below h.row hb, fun r hr => (h.ents r hr).below hb, h.same⟩
theorem CopyO.mono {w : World} {base base' : Nat} {v : Value} {rs : List Rw} {ess : List (List Ent)} (h : CopyO w base v rs ess) (hb : base' ≤ base) : CopyO w base' v rs ess :=
  ⟨row_mono h.row hb, fun r hr => (h.ents r hr).mono hb, h.same⟩
/-- Two of them, one behind the other. -/
theorem CopyO.cat {w w' : World} {base : Nat} {v v2 v' : Value} {rs rs2 : List Rw} {e1 e2 : List (List Ent)} (h : CopyO w base v rs e1) (h2 : CopyO w base v2 rs2 e2) (hA : AppR w w' base v v' (rs.map Rw.u) (rs2.map Rw.u)) : CopyO w' base v' (rs ++ rs2) (e1 ++ e2) := by
  have hkk : ∀ x : Rw, OwnK w base x → OwnK w' base x := fun x hx => by
    refine hx.kept hA.grown (fun k' hk' q => ?_)
    rcases hx with ⟨h0, _⟩ | ⟨g2, cp2, h1, _, hE⟩
    · rw [h0] at hk'; cases hk'
    · rw [h1] at hk'
      have e3 : g2 = k' := Option.some.inj hk'
      subst e3
      exact own_apart h.row hE (by decide) _ q rfl
  refine ⟨by rw [List.map_append]; exact hA.row, fun r hr => ?_, by rw [List.map_append, h.same, h2.same]⟩
  rcases List.mem_append.1 hr with q | q
  · exact hkk r (h.ents r q)
  · exact hkk r (h2.ents r q)
theorem CopyO.ts {w : World} {base : Nat} {v : Value} {rs : List Rw} {ess : List (List Ent)} (h : CopyO w base v rs ess) (lo : ByteArray) : OwnTs w base [⟨lo, v, rs⟩] := by
  refine ⟨fun t ht => ?_, fun t ht => ?_⟩
  all_goals
    simp at ht
    subst ht
  · exact OwnRow.of h.row rfl
  · exact h.ents
/-- What MergeStore of spec hands back. -/
def MgSPost (w : World) (tb : List Tb) (row : ByteArray) (e : Ending) (w' : World) : Prop := ∃ out, MrgT tb row out ∧ CpSPost w out e w'

set_option maxHeartbeats 8000000 in
theorem specMerge_store (b off cap : Nat) (ts : List Tm) (row : ByteArray) (w : World) (h : TmsAt w b off ts) (hok : okTs ts) (hB : b < w.heap.size) (hn : ts.length ≤ 1048576) (hs : ∀ t ∈ ts, t.l.length ≤ 1048576 ∧ totM t.l ≤ 1048576) :
    Calls Try.prog 26 #[.agg #[.slice (some ⟨b, off, none⟩) ts.length cap], .string row] w fun e w' => MgSPost w (tbs ts) row e w' := by
  obtain ⟨Wa, hWa⟩ : ∃ Wa : World, Wa = (w.alloc (Obj.cells #[.slice (some ⟨b, off, none⟩) ts.length cap] 66)).alloc (Obj.cells #[.slice none 0 0] 66) := ⟨_, rfl⟩
  have hba : Below w.heap.size w Wa := by rw [hWa]; exact ((Below.refl _ _).alloc (Nat.le_refl _) _).alloc (by simp) _
  have hza : Wa.heap.size = w.heap.size + 1 + 1 := by rw [hWa]; simp
  have HWa : Hid (∀ wx, Below Wa.heap.size Wa wx → wx.cell? ⟨w.heap.size, 0, none⟩ = some (.slice (some ⟨b, off, none⟩) ts.length cap) ∧ wx.cell? ⟨w.heap.size + 1, 0, none⟩ = some (.slice none 0 0) ∧ wx.frozen? ⟨w.heap.size + 1, 0, none⟩ = false ∧ TmsAt wx b off ts ∧ b < wx.heap.size) := by
    intro wx hx
    have sx := hx.size
    refine ⟨?_, ?_, ?_, (h.below hba hB).below hx (by omega), by omega⟩
    · rw [hx.cell (p := ⟨w.heap.size, 0, none⟩) (by show w.heap.size < Wa.heap.size; omega), hWa]; simp [go_sem]
    · rw [hx.cell (p := ⟨w.heap.size + 1, 0, none⟩) (by show w.heap.size + 1 < Wa.heap.size; omega), hWa]; simp [go_sem]
    · rw [hx.frozen (p := ⟨w.heap.size + 1, 0, none⟩) (by show w.heap.size + 1 < Wa.heap.size; omega), hWa]; simp [go_sem]
  have HS : Hid (okTs ts ∧ ∀ t ∈ ts, t.l.length ≤ 1048576 ∧ totM t.l ≤ 1048576) := ⟨hok, hs⟩
  -- a copy of the store as it came
  have HCp : Hid (∀ W, Below Wa.heap.size Wa W → Calls Try.prog 73 #[.agg #[.slice (some ⟨b, off, none⟩) ts.length cap]] W fun e w' => ∃ (va : Option Addr) (vn vc : Nat), e = .returned (.agg #[.slice va vn vc]) ∧ w'.cell? ⟨w.heap.size + 1, 0, none⟩ = some (.slice none 0 0) ∧ w'.frozen? ⟨w.heap.size + 1, 0, none⟩ = false ∧ Hid (CpSPost w (tbs ts) (.returned (.agg #[.slice va vn vc])) (w'.setCell ⟨w.heap.size + 1, 0, none⟩ (.slice va vn vc)))) := by
    intro W hW
    obtain ⟨_, _, _, hT, hb'⟩ := HWa.out W hW
    have sW := hW.size
    refine (specCopy_core b off cap ts W hT hb' hn HS.out.2).mono ?_
    rintro e w3 ⟨v, xs, rfl, hS, hx, hb3⟩
    have hb3' : Below Wa.heap.size Wa w3 := hW.trans (hb3.mono sW)
    obtain ⟨_, q1, q2, _⟩ := HWa.out w3 hb3'
    obtain ⟨va, vn, vc, rfl, hc⟩ := st_in (w := w) (R := w.heap.size + 1) (by omega) (by omega) hS (hba.trans (hb3'.mono (by omega)))
    rw [hx] at hc
    exact ⟨va, vn, vc, rfl, q1, q2, hc⟩
  clear h hok hs
  obtain ⟨c0, _, _, hT0, hB0⟩ := HWa.out Wa (Below.refl _ _)
  have HT0 : Hid (TmsAt Wa b off ts) := hT0
  clear hT0
  go_enter Try.func26, Try.ntmps26
  go_upto_region 1 with fail
  rw [← hWa]
  clear hWa
  go_wp2_with fail
  refine (specValidStore_core b off cap ts _ HT0.out HS.out.1 hB0 hn).mono ?_
  rintro e w1 ⟨r, rfl, hr, hb1⟩
  have HR : Hid (r = true ↔ GoodS (tbs ts)) := hr
  have s1 := hb1.size
  clear hr c0
  obtain ⟨c0, _, _, hT1, hB1⟩ := HWa.out w1 hb1
  have HT1 : Hid (TmsAt w1 b off ts) := hT1
  clear hT1
  cases r
  · have H : Hid (MrgT (tbs ts) row (tbs ts)) := mrgT_bad (fun q => Bool.noConfusion (HR.out.2 q))
    go_wp2_with fail
    refine (HCp.out _ hb1).mono ?_
    rintro e w3 ⟨va, vn, vc, rfl, q1, q2, hc⟩
    go_wp2_with fail
    exact bodyPost_ret (v := .agg #[.slice va vn vc]) (by simp [results, Try.results26, go_sem, q1]) rfl ⟨_, H.out, hc.out⟩
  have HG : Hid (GoodS (tbs ts)) := HR.out.1 rfl
  obtain ⟨i, hi⟩ := hold_ex HG.out row
  have HI : Hid (HoldAt (tbs ts) row i) := hi
  have hil : i < ts.length := by have := hi.1; rw [tbs_len] at this; exact this
  have hn100 : ts.length ≤ 100 := by have := HG.out.le; rw [tbs_len] at this; exact this
  clear hi
  go_wp2_with fail
  refine (specHolder_core b off cap ts row i _ HT1.out hB1 hn HI.out).mono ?_
  rintro e w2 ⟨rfl, hb2'⟩
  have hb2 : Below Wa.heap.size Wa w2 := hb1.trans (hb2'.mono s1)
  have s2 := hb2.size
  clear hb2' c0
  obtain ⟨c0, _, _, hT2, hB2⟩ := HWa.out w2 hb2
  have HT2 : Hid (TmsAt w2 b off ts) := hT2
  clear hT2
  have hwr : IntKind.i64.wrap ((i : Int) + 1) = (i : Int) + 1 := by rw [IntKind.wrap_i64]; omega
  go_upto_region 4 with fail
  by_cases hlast : i + 1 = ts.length
  · have H : Hid (MrgT (tbs ts) row (tbs ts)) := mrgT_last HI.out (by rw [tbs_len]; exact hlast)
    have zl : ((i : Int) + 1 == (ts.length : Int)) = true := by rw [beq_iff_eq]; omega
    have HL : Hid (i + 1 = ts.length) := hlast
    clear hlast
    go_quiet (fail)
    go_wp2_with fail
    refine (HCp.out _ (below_drewN hb2 _)).mono ?_
    rintro e w3 ⟨va, vn, vc, rfl, q1, q2, hc⟩
    go_wp2_with fail
    exact bodyPost_ret (v := .agg #[.slice va vn vc]) (by simp [results, Try.results26, go_sem, q1]) rfl ⟨_, H.out, hc.out⟩
  obtain ⟨t, ht⟩ : ∃ t, ts[i]? = some t := ⟨_, List.getElem?_eq_getElem hil⟩
  obtain ⟨n, hnx⟩ : ∃ n, ts[i + 1]? = some n := ⟨_, List.getElem?_eq_getElem (by omega)⟩
  have HTN : Hid (ts[i]? = some t ∧ ts[i + 1]? = some n) := ⟨ht, hnx⟩
  have HK : Hid (∀ w', Below Wa.heap.size Wa w' → w'.cell? ⟨w.heap.size, 0, none⟩ = some (.slice (some ⟨b, off, none⟩) ts.length cap) ∧ w'.cell? ⟨b, off + i * 2, none⟩ = some (.string t.lo) ∧ w'.cell? ⟨b, off + i * 2 + 1, none⟩ = some (.slice (some ⟨t.b, t.off, none⟩) t.l.length t.cap) ∧ w'.cell? ⟨b, off + (i + 1) * 2 + 1, none⟩ = some (.slice (some ⟨n.b, n.off, none⟩) n.l.length n.cap) ∧ t.at w' ∧ n.at w') := by
    intro w' hw'
    obtain ⟨k0, _, _, kT, _⟩ := HWa.out w' hw'
    obtain ⟨k1, k2, k3⟩ := kT i t HTN.out.1
    obtain ⟨k4, k5, k6⟩ := kT (i + 1) n HTN.out.2
    exact ⟨k0, k1, k2, k5, k3, k6⟩
  have htl : t.l.length ≤ 1048576 := (HS.out.2 t (List.mem_of_getElem? ht)).1
  have hnl : n.l.length ≤ 1048576 := (HS.out.2 n (List.mem_of_getElem? hnx)).1
  have HTb : Hid ((tbs ts)[i]? = some t.tb ∧ (tbs ts)[i + 1]? = some n.tb) := by
    unfold tbs
    rw [show (List.map Tm.tb ts)[i]? = some t.tb by rw [List.getElem?_map, ht]; rfl, show (List.map Tm.tb ts)[i + 1]? = some n.tb by rw [List.getElem?_map, hnx]; rfl]
    exact ⟨rfl, rfl⟩
  clear ht hnx
  have zl : ((i : Int) + 1 == (ts.length : Int)) = false := by
    rw [beq_eq_false_iff_ne]; omega
  have z1 : (i : Int) < (ts.length : Int) := by omega
  have z2 : (i : Int) + 1 < (ts.length : Int) := by omega
  have z3 : (0 : Int) ≤ (i : Int) + 1 := by omega
  have htn : ((i : Int) + 1).toNat = i + 1 := by omega
  obtain ⟨d0, d1, d2, d3, _⟩ := HK.out w2 hb2
  by_cases hfull : 50 < t.l.length + n.l.length
  · have H : Hid (MrgT (tbs ts) row (tbs ts)) := mrgT_full HI.out HTb.out.1 HTb.out.2 (by show 50 < (esM t.l).length + (esM n.l).length; rw [List.length_map, List.length_map]; exact hfull)
    have zf : (50 : Int) < (t.l.length : Int) + (n.l.length : Int) := by omega
    have hwf : IntKind.i64.wrap ((t.l.length : Int) + (n.l.length : Int)) = (t.l.length : Int) + (n.l.length : Int) := by rw [IntKind.wrap_i64]; omega
    go_quiet (fail)
    go_wp2_with fail
    refine (HCp.out _ (below_drewN hb2 _)).mono ?_
    rintro e w3 ⟨va, vn, vc, rfl, q1, q2, hc⟩
    go_wp2_with fail
    exact bodyPost_ret (v := .agg #[.slice va vn vc]) (by simp [results, Try.results26, go_sem, q1]) rfl ⟨_, H.out, hc.out⟩
  have zf : ¬ (50 : Int) < (t.l.length : Int) + (n.l.length : Int) := by omega
  have hwf : IntKind.i64.wrap ((t.l.length : Int) + (n.l.length : Int)) = (t.l.length : Int) + (n.l.length : Int) := by rw [IntKind.wrap_i64]; omega
  go_quiet (fail)
  go_upto_region 6 with fail
  obtain ⟨W2, hW2⟩ : ∃ W2 : World, W2 = w2.drewN nq := ⟨_, rfl⟩
  have hbq : Below Wa.heap.size Wa W2 := by rw [hW2]; exact below_drewN hb2 _
  rw [← hW2]
  clear hW2 d0 d1 d2 d3 c0 HT2 hB2 s2 hb2
  have HCall : Hid (∀ (u : Tm) (X : World), u ∈ ts → u.at X → Below Wa.heap.size Wa X → Calls Try.prog 75 #[.slice (some ⟨u.b, u.off, none⟩) u.l.length u.cap] X fun e w' => ∃ (g cp nn : Nat) (rs : List Rw), e = .returned (.slice (some ⟨g, 0, none⟩) nn cp) ∧ Hid (nn = rs.length ∧ CopyO w' X.heap.size (.slice (some ⟨g, 0, none⟩) nn cp) rs (esM u.l) ∧ Below X.heap.size X w' ∧ Below Wa.heap.size Wa w') ∧ w'.cell? ⟨w.heap.size, 0, none⟩ = some (.slice (some ⟨b, off, none⟩) ts.length cap) ∧ w'.cell? ⟨b, off + i * 2 + 1, none⟩ = some (.slice (some ⟨t.b, t.off, none⟩) t.l.length t.cap) ∧ w'.cell? ⟨b, off + (i + 1) * 2 + 1, none⟩ = some (.slice (some ⟨n.b, n.off, none⟩) n.l.length n.cap)) := by
    intro u X hu hat hX
    refine (specCopyRuns_core u.u u.l X hat.ins (HS.out.2 u hu).1 (HS.out.2 u hu).2).mono ?_
    rintro e w' ⟨v, rs, rfl, hC, ⟨g, cp, rfl, hrow⟩, hb'⟩
    have k' := hX.trans (hb'.mono hX.size)
    obtain ⟨q0, q1, q2, q3, _⟩ := HK.out w' k'
    exact ⟨g, cp, rs.length, rs, rfl, ⟨rfl, ⟨by rw [List.length_map]; exact hrow, hC.ents, hC.same⟩, hb', k'⟩, q0, q2, q3⟩
  have HMem : Hid (t ∈ ts ∧ n ∈ ts) := ⟨List.mem_of_getElem? HTN.out.1, List.mem_of_getElem? HTN.out.2⟩
  have hS : (fun w' : World => w'.cell? ⟨w.heap.size, 0, none⟩ = some (.slice (some ⟨b, off, none⟩) ts.length cap) ∧ w'.cell? ⟨b, off + i * 2 + 1, none⟩ = some (.slice (some ⟨t.b, t.off, none⟩) t.l.length t.cap) ∧ w'.cell? ⟨b, off + (i + 1) * 2 + 1, none⟩ = some (.slice (some ⟨n.b, n.off, none⟩) n.l.length n.cap)) W2.drew := by
    obtain ⟨q0, q1, q2, q3, _⟩ := HK.out W2.drew hbq.drew
    exact ⟨q0, q2, q3⟩
  refine wp_region_T 16 (fun w' : World => w'.cell? ⟨w.heap.size, 0, none⟩ = some (.slice (some ⟨b, off, none⟩) ts.length cap) ∧ w'.cell? ⟨b, off + i * 2 + 1, none⟩ = some (.slice (some ⟨t.b, t.off, none⟩) t.l.length t.cap) ∧ w'.cell? ⟨b, off + (i + 1) * 2 + 1, none⟩ = some (.slice (some ⟨n.b, n.off, none⟩) n.l.length n.cap)) (by kernel_rfl) ?_
  refine anyT_take (i := 0) (v := ?vr0x1) rfl (by kernel_rfl) (by kernel_rfl) (by kernel_rfl) (by kernel_rfl) (by decide) (fun _ _ _ h => h) (Or.inl ⟨by rfl, ?yr0x1⟩) hS ?_
  case yr0x1 => (intro wz hSw; (try dsimp only at hSw); go_simp; (try with_reducible rfl))
  try simp only [Act.put, List.setIfInBounds_toArray, List.set_cons_zero, List.set_cons_succ]
  refine anyT_take (i := 1) (v := ?vr1x2) rfl (by kernel_rfl) (by kernel_rfl) (by kernel_rfl) (by kernel_rfl) (by decide) (fun _ _ _ h => h) (Or.inl ⟨by rfl, ?yr1x2⟩) hS ?_
  case yr1x2 => (intro wz hSw; (try dsimp only at hSw); go_simp; (try with_reducible rfl))
  try simp only [Act.put, List.setIfInBounds_toArray, List.set_cons_zero, List.set_cons_succ]
  refine anyT_take (i := 2) (v := ?vr2x3) rfl (by kernel_rfl) (by kernel_rfl) (by kernel_rfl) (by kernel_rfl) (by decide) (fun _ _ _ h => h) (Or.inl ⟨by rfl, ?yr2x3⟩) hS ?_
  case yr2x3 => (intro wz hSw; (try dsimp only at hSw); go_simp; (try with_reducible rfl))
  try simp only [Act.put, List.setIfInBounds_toArray, List.set_cons_zero, List.set_cons_succ]
  refine anyT_take (i := 3) (v := ?vr3x4) rfl (by kernel_rfl) (by kernel_rfl) (by kernel_rfl) (by kernel_rfl) (by decide) (fun _ _ _ h => h) (Or.inl ⟨by rfl, ?yr3x4⟩) hS ?_
  case yr3x4 => (intro wz hSw; (try dsimp only at hSw); go_simp; (try with_reducible rfl))
  try simp only [Act.put, List.setIfInBounds_toArray, List.set_cons_zero, List.set_cons_succ]
  refine anyT_take (i := 4) (v := ?vr4x5) rfl (by kernel_rfl) (by kernel_rfl) (by kernel_rfl) (by kernel_rfl) (by decide) (fun _ _ _ h => h) (Or.inl ⟨by rfl, ?yr4x5⟩) hS ?_
  case yr4x5 => (intro wz hSw; (try dsimp only at hSw); go_simp; (try with_reducible rfl))
  try simp only [Act.put, List.setIfInBounds_toArray, List.set_cons_zero, List.set_cons_succ]
  refine anyT_take (i := 5) (v := ?vr5x6) rfl (by kernel_rfl) (by kernel_rfl) (by kernel_rfl) (by kernel_rfl) (by decide) (fun _ _ _ h => h) (Or.inl ⟨by rfl, ?yr5x6⟩) hS ?_
  case yr5x6 => (intro wz hSw; (try dsimp only at hSw); go_simp; (try with_reducible rfl))
  try simp only [Act.put, List.setIfInBounds_toArray, List.set_cons_zero, List.set_cons_succ]
  refine anyT_take (i := 7) (v := ?vr7x7) rfl (by kernel_rfl) (by kernel_rfl) (by kernel_rfl) (by kernel_rfl) (by decide) (fun _ _ _ h => h) (Or.inl ⟨by rfl, ?yr7x7⟩) hS ?_
  case yr7x7 => (intro wz hSw; (try dsimp only at hSw); go_simp; (try with_reducible rfl))
  try simp only [Act.put, List.setIfInBounds_toArray, List.set_cons_zero, List.set_cons_succ]
  refine anyT_take (i := 8) (v := ?vr8x8) rfl (by kernel_rfl) (by kernel_rfl) (by kernel_rfl) (by kernel_rfl) (by decide) (fun _ _ _ h => h) (Or.inl ⟨by rfl, ?yr8x8⟩) hS ?_
  case yr8x8 => (intro wz hSw; (try dsimp only at hSw); go_simp; (try with_reducible rfl))
  try simp only [Act.put, List.setIfInBounds_toArray, List.set_cons_zero, List.set_cons_succ]
  refine anyT_take (i := 9) (v := ?vr9x9) rfl (by kernel_rfl) (by kernel_rfl) (by kernel_rfl) (by kernel_rfl) (by decide) (fun _ _ _ h => h) (Or.inl ⟨by rfl, ?yr9x9⟩) hS ?_
  case yr9x9 => (intro wz hSw; (try dsimp only at hSw); go_simp; (try with_reducible rfl))
  try simp only [Act.put, List.setIfInBounds_toArray, List.set_cons_zero, List.set_cons_succ]
  refine anyT_take (i := 10) (v := ?vr10x10) rfl (by kernel_rfl) (by kernel_rfl) (by kernel_rfl) (by kernel_rfl) (by decide) (fun _ _ _ h => h) (Or.inl ⟨by rfl, ?yr10x10⟩) hS ?_
  case yr10x10 => (intro wz hSw; (try dsimp only at hSw); go_simp; (try with_reducible rfl))
  try simp only [Act.put, List.setIfInBounds_toArray, List.set_cons_zero, List.set_cons_succ]
  refine anyT_take (i := 11) (v := ?vr11x11) rfl (by kernel_rfl) (by kernel_rfl) (by kernel_rfl) (by kernel_rfl) (by decide) (fun _ _ _ h => h) (Or.inl ⟨by rfl, ?yr11x11⟩) hS ?_
  case yr11x11 => (intro wz hSw; (try dsimp only at hSw); go_simp; (try with_reducible rfl))
  try simp only [Act.put, List.setIfInBounds_toArray, List.set_cons_zero, List.set_cons_succ]
  refine anyT_take (i := 12) (v := ?vr12x12) rfl (by kernel_rfl) (by kernel_rfl) (by kernel_rfl) (by kernel_rfl) (by decide) (fun _ _ _ h => h) (Or.inl ⟨by rfl, ?yr12x12⟩) hS ?_
  case yr12x12 => (intro wz hSw; (try dsimp only at hSw); go_simp; (try with_reducible rfl))
  try simp only [Act.put, List.setIfInBounds_toArray, List.set_cons_zero, List.set_cons_succ]
  refine anyT_take (i := 13) (v := ?vr13x13) rfl (by kernel_rfl) (by kernel_rfl) (by kernel_rfl) (by kernel_rfl) (by decide) (fun _ _ _ h => h) (Or.inl ⟨by rfl, ?yr13x13⟩) hS ?_
  case yr13x13 => (intro wz hSw; (try dsimp only at hSw); go_simp; (try with_reducible rfl))
  try simp only [Act.put, List.setIfInBounds_toArray, List.set_cons_zero, List.set_cons_succ]
  refine anyT_one (i := 6) (by kernel_rfl) rfl (fun K hK => ?_)
  go_simp
  go_at_call 75
  refine (HCall.out t _ HMem.out.1 (HK.out W2.drew hbq.drew).2.2.2.2.1 hbq.drew).mono ?_
  rintro r v1 ⟨g1, cp1, n1, rs1, rfl, HC1, m0, m2, m3⟩
  refine hK.out _ _ (.inr ⟨m0, m2, m3⟩) ?_
  clear hK
  try simp only [Act.put, List.setIfInBounds_toArray, List.set_cons_zero, List.set_cons_succ]
  refine anyT_one (i := 14) (by kernel_rfl) rfl (fun K hK => ?_)
  go_simp
  go_at_call 75
  refine (HCall.out n _ HMem.out.2 (HK.out v1 HC1.out.2.2.2).2.2.2.2.2 HC1.out.2.2.2).mono ?_
  rintro r v2 ⟨g2, cp2, n2, rs2, rfl, HC2, l0, l2, l3⟩
  refine hK.out _ _ (.inr ⟨l0, l2, l3⟩) ?_
  clear hK
  try simp only [Act.put, List.setIfInBounds_toArray, List.set_cons_zero, List.set_cons_succ]
  have HAB : Hid (CopyO v2 Wa.heap.size (.slice (some ⟨g1, 0, none⟩) n1 cp1) rs1 (esM t.l) ∧ CopyO v2 Wa.heap.size (.slice (some ⟨g2, 0, none⟩) n2 cp2) rs2 (esM n.l) ∧ n2 = (rs2.map Rw.u).length ∧ Below Wa.heap.size Wa v2) := by
    obtain ⟨a1, a2, a3, a4⟩ := HC1.out
    obtain ⟨b1, b2, b3, b4⟩ := HC2.out
    have s1 := hbq.drew.size
    have s2 := a4.size
    exact ⟨(a2.below b3).mono s1, b2.mono s2, by rw [List.length_map]; exact b1, b4⟩
  have hl12 : Hid ((rs1.map Rw.u).length + (rs2.map Rw.u).length ≤ 2 ^ 30) := by
    have e1 := congrArg List.length HAB.out.1.same
    have e2 := congrArg List.length HAB.out.2.1.same
    simp at e1 e2
    show _ ≤ _
    rw [List.length_map, List.length_map, e1, e2]
    omega
  refine anyT_one (i := 15) (by kernel_rfl) rfl (fun K hK => ?_)
  refine step_append_runO _ (by rfl) _ _ (by rfl) Wa.heap.size (.slice (some ⟨g1, 0, none⟩) n1 cp1) (rs1.map Rw.u) g2 0 n2 cp2 (rs2.map Rw.u) (by rfl) (by rfl) HAB.out.2.2.1 HAB.out.1.row (fun j u hu => ?hc) (fun u hu => ?h1) hl12.out HAB.out.2.2.2.size ?_
  case hc =>
    have hl := (List.getElem?_eq_some_iff.1 hu).1
    have h5 := HAB.out.2.1.row
    rw [← HAB.out.2.2.1] at h5
    have := World.ownsRow.cellAt h5 j (by have := HAB.out.2.2.1; omega)
    rw [hu] at this
    rw [Nat.zero_add]
    exact this
  case h1 =>
    obtain ⟨r, hr, rfl⟩ := List.mem_map.1 hu
    rcases HAB.out.2.1.ents r hr with ⟨_, _, a, c, q⟩ | ⟨g, cp, _, q, _⟩ <;> rw [q] <;> rfl
  intro v' v3 hA
  obtain ⟨g3, cp3, rfl⟩ := hA.form (fun q => by cases q)
  obtain ⟨N3, hN3⟩ : ∃ N3, N3 = (rs1.map Rw.u ++ rs2.map Rw.u).length := ⟨_, rfl⟩
  rw [← hN3] at hA ⊢
  have HA3 : Hid (CopyO v3 Wa.heap.size (.slice (some ⟨g3, 0, none⟩) N3 cp3) (rs1 ++ rs2) (esM t.l ++ esM n.l) ∧ Below Wa.heap.size Wa v3) := by
    obtain ⟨a1, a2, a3, a4⟩ := HAB.out
    exact ⟨a1.cat a2 hA, a4.grown hA.grown a4.size (fun j hj => row_blk a1.row j hj)⟩
  obtain ⟨k0, k1, k2, k3, _⟩ := HK.out v3 HA3.out.2
  refine hK.out _ _ (.inr ⟨k0, k2, k3⟩) ?_
  clear hK hA hN3
  try simp only [Act.put, List.setIfInBounds_toArray, List.set_cons_zero, List.set_cons_succ]
  refine anyT_one (i := 16) (by kernel_rfl) rfl (fun K hK => ?_)
  go_simp
  refine hK.out _ _ (.inl rfl) ?_
  clear hK
  try simp only [Act.put, List.setIfInBounds_toArray, List.set_cons_zero, List.set_cons_succ]
  refine anyT_done (by kernel_rfl) ?_
  have hwr2 : IntKind.i64.wrap ((i : Int) + 2) = (i : Int) + 2 := by rw [IntKind.wrap_i64]; omega
  have HRep : Hid (∀ (X : World) (ob : Nat), Below Wa.heap.size Wa X → ob < X.heap.size → OwnTs X Wa.heap.size [⟨t.lo, .slice (some ⟨g3, 0, none⟩) N3 cp3, rs1 ++ rs2⟩] → X.cell? ⟨ob, 0, none⟩ = some (.string t.lo) → X.cell? ⟨ob, 1, none⟩ = some (.slice (some ⟨g3, 0, none⟩) N3 cp3) →
      Calls Try.prog 76 #[.agg #[.slice (some ⟨b, off, none⟩) ts.length cap], .int .i64 i, .int .i64 ((i : Int) + 2), .slice (some ⟨ob, 0, none⟩) 1 1] X fun e w' => ∃ (va : Option Addr) (vn vc : Nat), e = .returned (.agg #[.slice va vn vc]) ∧ w'.cell? ⟨w.heap.size + 1, 0, none⟩ = some (.slice none 0 0) ∧ w'.frozen? ⟨w.heap.size + 1, 0, none⟩ = false ∧ w'.cell? ⟨w.heap.size, 0, none⟩ = some (.slice (some ⟨b, off, none⟩) ts.length cap) ∧ w'.cell? ⟨b, off + i * 2, none⟩ = some (.string t.lo) ∧ Hid (MgSPost w (tbs ts) row (.returned (.agg #[.slice va vn vc])) (w'.setCell ⟨w.heap.size + 1, 0, none⟩ (.slice va vn vc)))) := by
    intro X ob hX hob hts hc0 hc1
    obtain ⟨_, _, _, hT, hb'⟩ := HWa.out X hX
    have sX := hX.size
    have hcall := specReplace_core b off cap ts [⟨t.lo, .slice (some ⟨g3, 0, none⟩) N3 cp3, rs1 ++ rs2⟩] i (i + 2) ob Wa.heap.size X hT hb' (fun j u hu => by
      cases j with
      | zero => simp at hu; subst hu; exact ⟨by simpa using hc0, by simpa using hc1⟩
      | succ j => simp at hu) hob hts sX (by omega) (by simp) (by simp) (by omega) (by omega) (by omega) HS.out.2
    rw [show ((i + 2 : Nat) : Int) = (i : Int) + 2 by omega] at hcall
    refine hcall.mono ?_
    rintro e w3 ⟨v, ys, rfl, hrow, hys, htb, hb3⟩
    have hb3' : Below Wa.heap.size Wa w3 := hX.trans (hb3.mono sX)
    obtain ⟨_, q1, q2, _⟩ := HWa.out w3 hb3'
    have hSt : OwnSt w3 Wa.heap.size v ys := ⟨trow_mono hrow sX, hys.runs, hys.ents⟩
    obtain ⟨va, vn, vc, rfl, hc⟩ := st_in (w := w) (R := w.heap.size + 1) (by omega) (by omega) hSt (hba.trans (hb3'.mono (by omega)))
    obtain ⟨y0, y1, _⟩ := HK.out w3 hb3'
    refine ⟨va, vn, vc, rfl, q1, q2, y0, y1, _, mrgT_done HG.out HI.out HTb.out.1 HTb.out.2 (by show (esM t.l).length + (esM n.l).length ≤ 50; rw [List.length_map, List.length_map]; omega), ?_⟩
    have he : ys.map Tx.tb = (tbs ts).take i ++ [⟨t.tb.lo, t.tb.rs ++ n.tb.rs⟩] ++ (tbs ts).drop (i + 2) := by
      rw [htb]
      unfold tbs
      rw [List.map_take, List.map_drop]
      have := HA3.out.1.same
      simp only [List.map_cons, List.map_nil, Tx.tb, this]
      rfl
    rw [← he]
    exact hc
  clear m0 m2 m3 l0 l2 l3 hl12
  go_upto_region 7 with fail
  have hS3 : (fun w' : World => w'.cell? ⟨w.heap.size, 0, none⟩ = some (.slice (some ⟨b, off, none⟩) ts.length cap) ∧ w'.cell? ⟨b, off + i * 2, none⟩ = some (.string t.lo)) v3.drew := ⟨by simpa using k0, by simpa using k1⟩
  refine wp_region_T 14 (fun w' : World => w'.cell? ⟨w.heap.size, 0, none⟩ = some (.slice (some ⟨b, off, none⟩) ts.length cap) ∧ w'.cell? ⟨b, off + i * 2, none⟩ = some (.string t.lo)) (by kernel_rfl) ?_
  refine anyT_take (i := 0) (v := ?vr0x14) rfl (by kernel_rfl) (by kernel_rfl) (by kernel_rfl) (by kernel_rfl) (by decide) (fun _ _ _ h => h) (Or.inl ⟨by rfl, ?yr0x14⟩) hS3 ?_
  case yr0x14 => (intro wz hSw; (try dsimp only at hSw); go_simp; (try with_reducible rfl))
  try simp only [Act.put, List.setIfInBounds_toArray, List.set_cons_zero, List.set_cons_succ]
  refine anyT_take (i := 1) (v := ?vr1x15) rfl (by kernel_rfl) (by kernel_rfl) (by kernel_rfl) (by kernel_rfl) (by decide) (fun _ _ _ h => h) (Or.inl ⟨by rfl, ?yr1x15⟩) hS3 ?_
  case yr1x15 => (intro wz hSw; (try dsimp only at hSw); go_simp; (try with_reducible rfl))
  try simp only [Act.put, List.setIfInBounds_toArray, List.set_cons_zero, List.set_cons_succ]
  refine anyT_take (i := 2) (v := ?vr2x16) rfl (by kernel_rfl) (by kernel_rfl) (by kernel_rfl) (by kernel_rfl) (by decide) (fun _ _ _ h => h) (Or.inl ⟨by rfl, ?yr2x16⟩) hS3 ?_
  case yr2x16 => (intro wz hSw; (try dsimp only at hSw); go_simp; (try with_reducible rfl))
  try simp only [Act.put, List.setIfInBounds_toArray, List.set_cons_zero, List.set_cons_succ]
  refine anyT_take (i := 3) (v := ?vr3x17) rfl (by kernel_rfl) (by kernel_rfl) (by kernel_rfl) (by kernel_rfl) (by decide) (fun _ _ _ h => h) (Or.inl ⟨by rfl, ?yr3x17⟩) hS3 ?_
  case yr3x17 => (intro wz hSw; (try dsimp only at hSw); go_simp; (try with_reducible rfl))
  try simp only [Act.put, List.setIfInBounds_toArray, List.set_cons_zero, List.set_cons_succ]
  refine anyT_take (i := 4) (v := ?vr4x18) rfl (by kernel_rfl) (by kernel_rfl) (by kernel_rfl) (by kernel_rfl) (by decide) (fun _ _ _ h => h) (Or.inl ⟨by rfl, ?yr4x18⟩) hS3 ?_
  case yr4x18 => (intro wz hSw; (try dsimp only at hSw); go_simp; (try with_reducible rfl))
  try simp only [Act.put, List.setIfInBounds_toArray, List.set_cons_zero, List.set_cons_succ]
  refine anyT_take (i := 5) (v := ?vr5x19) rfl (by kernel_rfl) (by kernel_rfl) (by kernel_rfl) (by kernel_rfl) (by decide) (fun _ _ _ h => h) (Or.inl ⟨by rfl, ?yr5x19⟩) hS3 ?_
  case yr5x19 => (intro wz hSw; (try dsimp only at hSw); go_simp; (try with_reducible rfl))
  try simp only [Act.put, List.setIfInBounds_toArray, List.set_cons_zero, List.set_cons_succ]
  refine anyT_take (i := 6) (v := ?vr6x20) rfl (by kernel_rfl) (by kernel_rfl) (by kernel_rfl) (by kernel_rfl) (by decide) (fun _ _ _ h => h) (Or.inl ⟨by rfl, ?yr6x20⟩) hS3 ?_
  case yr6x20 => (intro wz hSw; (try dsimp only at hSw); go_simp; (try with_reducible rfl))
  try simp only [Act.put, List.setIfInBounds_toArray, List.set_cons_zero, List.set_cons_succ]
  refine anyT_take (i := 7) (v := ?vr7x21) rfl (by kernel_rfl) (by kernel_rfl) (by kernel_rfl) (by kernel_rfl) (by decide) (fun _ _ _ h => h) (Or.inl ⟨by rfl, ?yr7x21⟩) hS3 ?_
  case yr7x21 => (intro wz hSw; (try dsimp only at hSw); go_simp; (try with_reducible rfl))
  try simp only [Act.put, List.setIfInBounds_toArray, List.set_cons_zero, List.set_cons_succ]
  refine anyT_take (i := 8) (v := ?vr8x22) rfl (by kernel_rfl) (by kernel_rfl) (by kernel_rfl) (by kernel_rfl) (by decide) (fun _ _ _ h => h) (Or.inl ⟨by rfl, ?yr8x22⟩) hS3 ?_
  case yr8x22 => (intro wz hSw; (try dsimp only at hSw); go_simp; (try with_reducible rfl))
  try simp only [Act.put, List.setIfInBounds_toArray, List.set_cons_zero, List.set_cons_succ]
  refine anyT_take (i := 9) (v := ?vr9x23) rfl (by kernel_rfl) (by kernel_rfl) (by kernel_rfl) (by kernel_rfl) (by decide) (fun _ _ _ h => h) (Or.inl ⟨by rfl, ?yr9x23⟩) hS3 ?_
  case yr9x23 => (intro wz hSw; (try dsimp only at hSw); go_simp; (try with_reducible rfl))
  try simp only [Act.put, List.setIfInBounds_toArray, List.set_cons_zero, List.set_cons_succ]
  refine anyT_take (i := 10) (v := ?vr10x24) rfl (by kernel_rfl) (by kernel_rfl) (by kernel_rfl) (by kernel_rfl) (by decide) (fun _ _ _ h => h) (Or.inl ⟨by rfl, ?yr10x24⟩) hS3 ?_
  case yr10x24 => (intro wz hSw; (try dsimp only at hSw); go_simp; (try with_reducible rfl))
  try simp only [Act.put, List.setIfInBounds_toArray, List.set_cons_zero, List.set_cons_succ]
  refine anyT_take (i := 11) (v := ?vr11x25) rfl (by kernel_rfl) (by kernel_rfl) (by kernel_rfl) (by kernel_rfl) (by decide) (fun _ _ _ h => h) (Or.inl ⟨by rfl, ?yr11x25⟩) hS3 ?_
  case yr11x25 => (intro wz hSw; (try dsimp only at hSw); go_simp; (try with_reducible rfl))
  try simp only [Act.put, List.setIfInBounds_toArray, List.set_cons_zero, List.set_cons_succ]
  refine anyT_one (i := 12) (by kernel_rfl) rfl (fun K hK => ?_)
  go_simp
  obtain ⟨W4, hW4⟩ : ∃ W4 : World, W4 = (v3.alloc (Obj.cells #[.string t.lo, .slice (some ⟨g3, 0, none⟩) N3 cp3] 133)).drew := ⟨_, rfl⟩
  have hb4 : Below v3.heap.size v3 W4 := by rw [hW4]; exact ((Below.refl _ _).alloc (Nat.le_refl _) _).drew
  have hz4 : W4.heap.size = v3.heap.size + 1 := by rw [hW4]; simp
  have hB4 : Below Wa.heap.size Wa W4 := HA3.out.2.trans (hb4.mono HA3.out.2.size)
  have HX4 : Hid (OwnTs W4 Wa.heap.size [⟨t.lo, .slice (some ⟨g3, 0, none⟩) N3 cp3, rs1 ++ rs2⟩] ∧ W4.cell? ⟨v3.heap.size, 0, none⟩ = some (.string t.lo) ∧ W4.cell? ⟨v3.heap.size, 1, none⟩ = some (.slice (some ⟨g3, 0, none⟩) N3 cp3)) :=
    ⟨(HA3.out.1.ts t.lo).below hb4, by rw [hW4]; simp [go_sem], by rw [hW4]; simp [go_sem]⟩
  rw [← hW4]
  obtain ⟨p0, p1, _⟩ := HK.out W4 hB4
  refine hK.out _ _ (.inr ⟨p0, p1⟩) ?_
  clear hK hW4
  try simp only [Act.put, List.setIfInBounds_toArray, List.set_cons_zero, List.set_cons_succ]
  refine anyT_one (i := 13) (by kernel_rfl) rfl (fun K hK => ?_)
  go_simp
  go_at_call 76
  refine (HRep.out W4 v3.heap.size hB4 (by omega) HX4.out.1 HX4.out.2.1 HX4.out.2.2).mono ?_
  rintro e w5 ⟨va, vn, vc, rfl, q1, q2, y0, y1, hc⟩
  refine hK.out _ _ (.inr ⟨y0, y1⟩) ?_
  clear hK
  try simp only [Act.put, List.setIfInBounds_toArray, List.set_cons_zero, List.set_cons_succ]
  refine anyT_one (i := 14) (by kernel_rfl) rfl (fun K hK => ?_)
  go_simp
  refine hK.out _ _ (.inl rfl) ?_
  clear hK
  try simp only [Act.put, List.setIfInBounds_toArray, List.set_cons_zero, List.set_cons_succ]
  refine anyT_done (by kernel_rfl) ?_
  go_wp2_with fail
  exact bodyPost_ret (v := .agg #[.slice va vn vc]) (by simp [results, Try.results26, go_sem, q1]) rfl hc.out
end Go.Proofs.Ytlgeffinhbodeae
