import Derived.BigQuiet
import Derived.Test.YtlgeffinhbodeafGreatPkAJ
import Derived.Test.YtlgeffinhbodeafGreatPkAD
/-
  impl's copied.
-/
namespace Go.Proofs.YtlgeffinhbodeafGreat
open Go.ChangeShapes Go.WideShapes Go.ChangeAt Go.RowKit Go.Deep
set_option linter.unusedVariables false
set_option linter.unusedSimpArgs false
set_option maxRecDepth 100000

/-- A tablet as a copy reads it: its runs may be nil. -/
structure Ty where
  lo : ByteArray
  v : Value
  l : List Rm
def Ty.tb (t : Ty) : Tb := ⟨t.lo, esM t.l⟩
def TysAt (w : World) (b off : Nat) (ts : List Ty) : Prop := ∀ i t, ts[i]? = some t → w.cell? ⟨b, off + i * 2, none⟩ = some (.string t.lo) ∧ w.cell? ⟨b, off + i * 2 + 1, none⟩ = some t.v ∧ InRms w t.v t.l
theorem TysAt.below {w w' : World} {b off : Nat} {ts : List Ty} (h : TysAt w b off ts) (hb : Below w.heap.size w w') (hlt : b < w.heap.size) : TysAt w' b off ts := by
  intro i t ht
  obtain ⟨h1, h2, h3⟩ := h i t ht
  exact ⟨by rw [hb.cell (p := ⟨b, off + i * 2, none⟩) (by exact hlt)]; exact h1, by rw [hb.cell (p := ⟨b, off + i * 2 + 1, none⟩) (by exact hlt)]; exact h2, h3.below hb⟩
def Tm.ty (t : Tm) : Ty := ⟨t.lo, t.u, t.l⟩
theorem TmsAt.tys {w : World} {b off : Nat} {ts : List Tm} (h : TmsAt w b off ts) : TysAt w b off (ts.map Tm.ty) := by
  intro i t ht
  rw [List.getElem?_map] at ht
  cases hp : ts[i]? with
  | none => rw [hp] at ht; cases ht
  | some p =>
    rw [hp] at ht
    simp at ht
    subst ht
    obtain ⟨h1, h2, h3⟩ := h i p hp
    exact ⟨h1, h2, h3.ins⟩
theorem apartT_snoc {xs : List Tx} {t : Tx} {n : Nat} (h : ApartT xs) (h1 : ∀ x ∈ xs, ∀ r ∈ x.rs, ∀ k, r.k = some k → k < n) (h2 : ∀ r ∈ t.rs, ∀ k, r.k = some k → n ≤ k) (h3 : Apart t.rs) : ApartT (xs ++ [t]) := by
  unfold ApartT
  rw [List.flatMap_append]
  refine List.pairwise_append.2 ⟨h, (by simp only [List.flatMap_cons, List.flatMap_nil, List.append_nil]; exact h3), fun a ha b hb k hk hk' => ?_⟩
  obtain ⟨x, hx, hr⟩ := List.mem_flatMap.1 ha
  simp at hb
  have q1 := h1 x hx a hr k hk
  have q2 := h2 b hb k hk'
  omega
/-- What impl's copy of a store hands back. -/
def CpIPost (w : World) (tbs : List Tb) (e : Ending) (w' : World) : Prop := ∃ (g cp : Nat) (xs : List Tx), e = .returned (.agg #[.slice (some ⟨g, 0, none⟩) xs.length cp]) ∧ OwnSt w' w.heap.size (.slice (some ⟨g, 0, none⟩) xs.length cp) xs ∧ ApartT xs ∧ xs.map Tx.tb = tbs ∧ Below w.heap.size w w'

set_option maxHeartbeats 8000000 in
theorem implCopied_core (b off cap : Nat) (ts : List Ty) (w : World) (h : TysAt w b off ts) (hB : b < w.heap.size) (hn : ts.length ≤ 1048576) (hs : ∀ t ∈ ts, t.l.length ≤ 1048576 ∧ totM t.l ≤ 1048576) :
    Calls Tryz.prog 30 #[.agg #[.slice (some ⟨b, off, none⟩) ts.length cap]] w fun e w' => CpIPost w (ts.map Ty.tb) e w' := by
  obtain ⟨iT, hiT, hzT0, hzT1, hzT2⟩ := info_parts Tryz.infoTab
  have HIT : Hid (Tryz.prog.info? 56 = some iT ∧ iT.zero = some (.agg #[.string ⟨#[]⟩, .slice none 0 0]) ∧ iT.size = 2 ∧ iT.bytes = 40) := ⟨hiT, hzT0, hzT1, hzT2⟩
  obtain ⟨iR, hiR, hzR0, hzR1, hzR2⟩ := info_parts Tryz.infoRun
  have HIR : Hid (Tryz.prog.info? 58 = some iR ∧ iR.zero = some (.agg #[.slice none 0 0]) ∧ iR.size = 1 ∧ iR.bytes = 24) := ⟨hiR, hzR0, hzR1, hzR2⟩
  clear hiT hzT0 hzT1 hzT2 hiR hzR0 hzR1 hzR2
  obtain ⟨Wa, hWa⟩ : ∃ Wa : World, Wa = (w.alloc (Obj.cells #[.slice (some ⟨b, off, none⟩) ts.length cap] 30)).alloc (Obj.cells #[.slice none 0 0] 30) := ⟨_, rfl⟩
  have hba : Below w.heap.size w Wa := by rw [hWa]; exact ((Below.refl _ _).alloc (Nat.le_refl _) _).alloc (by simp) _
  have hza : Wa.heap.size = w.heap.size + 1 + 1 := by rw [hWa]; simp
  have HWa : Hid (∀ wx, Below Wa.heap.size Wa wx → wx.cell? ⟨w.heap.size, 0, none⟩ = some (.slice (some ⟨b, off, none⟩) ts.length cap) ∧ wx.cell? ⟨w.heap.size + 1, 0, none⟩ = some (.slice none 0 0) ∧ wx.frozen? ⟨w.heap.size + 1, 0, none⟩ = false ∧ TysAt wx b off ts ∧ b < wx.heap.size) := by
    intro wx hx
    have sx := hx.size
    refine ⟨?_, ?_, ?_, (h.below hba hB).below hx (by omega), by omega⟩
    · rw [hx.cell (p := ⟨w.heap.size, 0, none⟩) (by show w.heap.size < Wa.heap.size; omega), hWa]; simp [go_sem]
    · rw [hx.cell (p := ⟨w.heap.size + 1, 0, none⟩) (by show w.heap.size + 1 < Wa.heap.size; omega), hWa]; simp [go_sem]
    · rw [hx.frozen (p := ⟨w.heap.size + 1, 0, none⟩) (by show w.heap.size + 1 < Wa.heap.size; omega), hWa]; simp [go_sem]
  have HS : Hid (∀ t ∈ ts, t.l.length ≤ 1048576 ∧ totM t.l ≤ 1048576) := hs
  clear h hs
  obtain ⟨c0, _⟩ := HWa.out Wa (Below.refl _ _)
  go_enter Tryz.func30, Tryz.ntmps30
  go_upto_region 1 with fail
  rw [← hWa]
  clear hWa
  go_wp2_with (at_make; refine wpList_make_own _ rfl _ _ 28 rfl Wa.heap.size 56 iT _ 2 Tryz.underlying28 HIT.out.1 HIT.out.2.1 HIT.out.2.2.1 _ _ _ ts.length rfl rfl rfl ?hb ?hm ?hs ?_)
  case hb => rw [HIT.out.2.2.2]; omega
  case hm => unfold maxLen; omega
  case hs => exact Nat.le_refl _
  intro w1 hown hgrow
  have HW1 : Hid (w1.ownsRow (w.heap.size + 1 + 1) 56 2 (.slice (some ⟨w.heap.size + 1 + 1, 0, none⟩) 0 ts.length) 0 []) := hown
  have hb1 : Below Wa.heap.size Wa w1 := (Below.refl _ _).grown hgrow (Nat.le_refl _) (fun k hk => by cases hk)
  clear hown hgrow c0
  obtain ⟨c0, _⟩ := HWa.out w1 hb1
  go_wp2_with fail
  clear c0
  go_loopw [3, 16] (fun o i wr => ∃ (k g cp : Nat) (xs : List Tx), k ≤ ts.length ∧ i = .int .i64 k ∧ o = .slice (some ⟨g, 0, none⟩) k cp ∧ xs.length = k ∧ xs.map Tx.tb = (ts.take k).map Ty.tb ∧ wr.ownsRow Wa.heap.size 56 2 (.slice (some ⟨g, 0, none⟩) k cp) k (cellsP (xs.map Tx.pr)) ∧ OwnTs wr Wa.heap.size xs ∧ ApartT xs ∧ Below Wa.heap.size Wa wr) (fun _ i _ => ts.length - (intOf i).toNat)
  case atStart => exact ⟨0, w.heap.size + 1 + 1, ts.length, [], Nat.zero_le _, rfl, rfl, rfl, rfl, (by rw [hza]; exact HW1.out), ⟨fun t ht => by simp at ht, fun t ht => by simp at ht⟩, List.Pairwise.nil, hb1⟩
  case round =>
    obtain ⟨wo, hwo⟩ : ∃ v : World, v = wr := ⟨_, rfl⟩
    subst hwo
    obtain ⟨k, g, cp, xs, hk, rfl, rfl, hxl, hxt, hrow, hts, hap, hb⟩ := hrel
    have HR : Hid (xs.length = k ∧ xs.map Tx.tb = (ts.take k).map Ty.tb ∧ wo.ownsRow Wa.heap.size 56 2 (.slice (some ⟨g, 0, none⟩) k cp) k (cellsP (xs.map Tx.pr)) ∧ OwnTs wo Wa.heap.size xs ∧ ApartT xs) := ⟨hxl, hxt, hrow, hts, hap⟩
    have hg := World.ownsRow.lt hrow g rfl
    have hso := hb.size
    clear hxl hxt hrow hts hap
    by_cases hlt : k < ts.length
    · obtain ⟨t, ht⟩ : ∃ t, ts[k]? = some t := ⟨_, List.getElem?_eq_getElem hlt⟩
      obtain ⟨_, _, _, d3, d4⟩ := HWa.out wo hb
      obtain ⟨e0, e1, hin⟩ := d3 k t ht
      obtain ⟨lo, tv, l⟩ := t
      simp only at e0 e1 hin
      obtain ⟨ad, vc, rfl, hcell⟩ := hin.shape
      have hl2 := HS.out _ (List.mem_of_getElem? ht)
      simp only at hl2
      have hll : l.length ≤ 1048576 := hl2.1
      have HD : Hid (ts[k]? = some ⟨lo, .slice ad l.length vc, l⟩ ∧ totM l ≤ 1048576 ∧ (∀ (i : Nat) (r : Rm), l[i]? = some r → ∃ b off, ad = some ⟨b, off, none⟩ ∧ b < wo.heap.size ∧ RmsAt wo b off l)) := ⟨ht, hl2.2, hcell⟩
      clear d3 ht hin hl2 hcell
      have zk : (k : Int) < (ts.length : Int) := by omega
      obtain ⟨W1, hW1⟩ : ∃ W1 : World, W1 = wo.alloc (Obj.cells #[.string lo, .slice ad l.length vc] 56) := ⟨_, rfl⟩
      have hbA : Below wo.heap.size wo W1 := by rw [hW1]; exact (Below.refl _ _).alloc (Nat.le_refl _) _
      have hzA : W1.heap.size = wo.heap.size + 1 := by rw [hW1]; simp
      have HC1 : Hid (∀ wx, Below W1.heap.size W1 wx → wx.cell? ⟨wo.heap.size, 0, none⟩ = some (.string lo) ∧ wx.cell? ⟨wo.heap.size, 1, none⟩ = some (.slice ad l.length vc)) := by
        intro wx hx
        constructor
        · rw [hx.cell (p := ⟨wo.heap.size, 0, none⟩) (by show wo.heap.size < W1.heap.size; omega), hW1]; simp
        · rw [hx.cell (p := ⟨wo.heap.size, 1, none⟩) (by show wo.heap.size < W1.heap.size; omega), hW1]; simp
      obtain ⟨n0, n1⟩ := HC1.out W1 (Below.refl _ _)
      go_upto_region 5 with fail
      rw [← hW1]
      clear hW1
      go_wp2_with (at_make; refine wpList_make_own _ rfl _ _ 54 rfl (wo.heap.size + 1) 58 iR _ 1 Tryz.underlying54 HIR.out.1 HIR.out.2.1 HIR.out.2.2.1 _ _ _ l.length rfl rfl rfl ?hb ?hm ?hs ?_)
      case hb => rw [HIR.out.2.2.2]; omega
      case hm => unfold maxLen; omega
      case hs => omega
      intro w2 hown hgrow
      have hb2 : Below W1.heap.size W1 w2 := (Below.refl _ _).grown hgrow (Nat.le_refl _) (fun k hk => by cases hk)
      have HW2 : Hid (w2.ownsRow (wo.heap.size + 1) 58 1 (.slice (some ⟨wo.heap.size + 1, 0, none⟩) 0 l.length) 0 []) := hown
      clear hgrow n0 n1 hown
      obtain ⟨n0, n1⟩ := HC1.out w2 hb2
      go_wp2_with fail
      clear n0 n1 e0 e1
      go_loopw [6, 27] (fun o i wr => ∃ (j g6 cp6 : Nat) (rs : List Rw), j ≤ l.length ∧ i = .int .i64 j ∧ o = .slice (some ⟨g6, 0, none⟩) j cp6 ∧ rs.length = j ∧ rs.map Rw.es = esM (l.take j) ∧ wr.ownsRow (wo.heap.size + 1) 58 1 (.slice (some ⟨g6, 0, none⟩) j cp6) j (rs.map Rw.u) ∧ (∀ r ∈ rs, OwnK wr (wo.heap.size + 1) r) ∧ Apart rs ∧ Below W1.heap.size W1 wr) (fun _ i _ => l.length - (intOf i).toNat)
      case atStart => exact ⟨0, wo.heap.size + 1, l.length, [], Nat.zero_le _, rfl, rfl, rfl, rfl, HW2.out, fun r hr => by simp at hr, List.Pairwise.nil, hb2⟩
      case round =>
        obtain ⟨wi, hwi⟩ : ∃ v : World, v = wr := ⟨_, rfl⟩
        subst hwi
        obtain ⟨j, g6, cp6, rs, hj, rfl, rfl, hrl, hes, hrow, hks, hap, hbi⟩ := hrel
        have HRi : Hid (rs.length = j ∧ rs.map Rw.es = esM (l.take j) ∧ wi.ownsRow (wo.heap.size + 1) 58 1 (.slice (some ⟨g6, 0, none⟩) j cp6) j (rs.map Rw.u) ∧ (∀ r ∈ rs, OwnK wi (wo.heap.size + 1) r) ∧ Apart rs) := ⟨hrl, hes, hrow, hks, hap⟩
        have hg6 := World.ownsRow.lt hrow g6 rfl
        have hsi := hbi.size
        clear hrl hes hrow hks hap
        by_cases hjl : j < l.length
        · obtain ⟨r, hr⟩ : ∃ r, l[j]? = some r := ⟨_, List.getElem?_eq_getElem hjl⟩
          obtain ⟨b', off', rfl, hB', hat⟩ := HD.out.2.2 j r hr
          have hbw : Below wo.heap.size wo wi := hbA.trans (hbi.mono (by omega))
          obtain ⟨m0, ha⟩ := (hat.below hbw hB') j r hr
          have hrt : r.es.length ≤ 1048576 := by have := totM_mem (List.mem_of_getElem? hr); have := HD.out.2.1; omega
          have HRr : Hid (l[j]? = some r ∧ r.at wi) := ⟨hr, ha⟩
          clear hr ha hat
          have zj : (j : Int) < (l.length : Int) := by omega
          obtain ⟨W3, hW3⟩ : ∃ W3 : World, W3 = wi.alloc (Obj.cells #[.slice (some ⟨r.b, r.off, none⟩) r.es.length r.cap] 58) := ⟨_, rfl⟩
          have hb3 : Below wi.heap.size wi W3 := by rw [hW3]; exact (Below.refl _ _).alloc (Nat.le_refl _) _
          have hz3 : W3.heap.size = wi.heap.size + 1 := by rw [hW3]; simp
          have p0 : W3.cell? ⟨wi.heap.size, 0, none⟩ = some (.slice (some ⟨r.b, r.off, none⟩) r.es.length r.cap) := by rw [hW3]; simp
          go_upto_region 9 with fail
          rw [← hW3]
          clear hW3
          go_wp2_with fail
          refine (clone_core r _ (HRr.out.2.below hb3) hrt).mono ?_
          rintro e w4 ⟨g4, cp4, rfl, hO4, hb4⟩
          have HO4 : Hid (OwnE w4 W3.heap.size g4 cp4 r.es) := hO4
          have hb34 : Below wi.heap.size wi w4 := hb3.trans (hb4.mono (by omega))
          have s4 := hb34.size
          have hus : (rs.map Rw.u).length = j := by rw [List.length_map]; exact HRi.out.1
          have HR4 : Hid ((w4.alloc (Obj.cells #[.slice (some ⟨g4, 0, none⟩) r.es.length cp4] 58)).ownsRow (wo.heap.size + 1) 58 1 (.slice (some ⟨g6, 0, none⟩) j cp6) (rs.map Rw.u).length (rs.map Rw.u)) := by
            show World.ownsRow _ _ _ _ _ _ _
            rw [hus]
            exact World.ownsRow.alloc (row_below HRi.out.2.2.1 hb34) _
          clear hO4 p0 m0
          go_wp2_with (at_builtin; refine wpList_append_runO _ rfl _ _ rfl (wo.heap.size + 1) (.slice (some ⟨g6, 0, none⟩) j cp6) (rs.map Rw.u) w4.heap.size 0 1 1 [.slice (some ⟨g4, 0, none⟩) r.es.length cp4] rfl rfl rfl HR4.out one_cell_new ?h1 ?hl ?hb ?_)
          case h1 => intro u hu; simp at hu; subst hu; rfl
          case hl => rw [hus]; simp; omega
          case hb => simp; omega
          intro v' w5 hA5
          have hz : (rs.map Rw.u ++ [Value.slice (some ⟨g4, 0, none⟩) r.es.length cp4]).length = j + 1 := by simp [hus]
          obtain ⟨g5, cp5, rfl⟩ := hA5.form (by intro q; cases q)
          have hO5 := hA5.row
          rw [hz] at hO5 ⊢
          have hgr5 := hA5.grown
          clear hA5
          have HN : Hid (∃ rs' : List Rw, rs'.length = j + 1 ∧ rs'.map Rw.es = esM (l.take (j + 1)) ∧ w5.ownsRow (wo.heap.size + 1) 58 1 (.slice (some ⟨g5, 0, none⟩) (j + 1) cp5) (j + 1) (rs'.map Rw.u) ∧ (∀ r ∈ rs', OwnK w5 (wo.heap.size + 1) r) ∧ Apart rs') := by
            obtain ⟨q1, q2, q3, q4, q5⟩ := HRi.out
            have hbz : Below w4.heap.size w4 (w4.alloc (Obj.cells #[.slice (some ⟨g4, 0, none⟩) r.es.length cp4] 58)) := (Below.refl _ _).alloc (Nat.le_refl _) _
            have hkk : ∀ x : Rw, OwnK w4 (wo.heap.size + 1) x → OwnK w5 (wo.heap.size + 1) x := fun x hx => by
              refine (hx.below hbz).kept hgr5 (fun k' hk' q => ?_)
              have hq : g6 = k' := Option.some.inj q
              subst hq
              rcases hx with ⟨h0, _⟩ | ⟨g2, cp2, h1, h2, hE⟩
              · rw [h0] at hk'; cases hk'
              · rw [h1] at hk'
                have e2 : g2 = g6 := Option.some.inj hk'
                subst e2
                exact own_apart (row_below q3 hb34) hE (by decide) _ rfl rfl
            refine ⟨rs ++ [⟨.slice (some ⟨g4, 0, none⟩) r.es.length cp4, r.es, some g4⟩], by simp [q1], ?_, ?_, ?_, ?_⟩
            · rw [List.map_append, q2, List.take_add_one, HRr.out.1]; simp [esM]
            · rw [List.map_append]
              exact hO5
            · intro x hx
              rcases List.mem_append.1 hx with hx | hx
              · exact hkk x ((q4 x hx).below hb34)
              · simp at hx
                subst hx
                exact hkk _ ((OwnK.mono (.inr ⟨g4, cp4, rfl, rfl, HO4.out⟩) (by omega)))
            · refine apart_snoc (n := wi.heap.size) q5 (fun x hx k' hk' => ((q4 x hx).key hk').2) (fun k' hk' => ?_)
              have e2 : g4 = k' := Option.some.inj hk'
              subst e2
              have := HO4.out.lt.1
              omega
          have hb5 : Below W1.heap.size W1 w5 := ((hbi.trans (hb34.mono hsi)).alloc (by omega) _).grown hgr5 (by simp; omega) (fun q hq => by have e : g6 = q := Option.some.inj hq; have := hg6.1; omega)
          clear hO5 hgr5 hus hz
          go_wp2_with fail
          go_roundw
          case rel =>
            go_light
            obtain ⟨rs', a1, a2, a3, a4, a5⟩ := HN.out
            exact ⟨j + 1, g5, cp5, rs', by omega, by go_num, rfl, a1, a2, a3, a4, a5, hb5⟩
          case measure => go_light; simp [intOf]; omega
        · have zj : ¬ (j : Int) < (l.length : Int) := by omega
          obtain ⟨n0, n1⟩ := HC1.out wi hbi
          have hbw : Below wo.heap.size wo wi := hbA.trans (hbi.mono (by omega))
          have s4 := hbw.size
          have hus : (xs.map Tx.pr).length = k := by rw [List.length_map]; exact HR.out.1
          have HR4 : Hid ((wi.alloc (Obj.cells #[.string lo, .slice (some ⟨g6, 0, none⟩) j cp6] 56)).ownsRow Wa.heap.size 56 2 (.slice (some ⟨g, 0, none⟩) k cp) (xs.map Tx.pr).length (cellsP (xs.map Tx.pr))) := by
            show World.ownsRow _ _ _ _ _ _ _
            rw [hus]
            exact World.ownsRow.alloc (row_below HR.out.2.2.1 hbw) _
          go_wp2_with (at_builtin; refine wpList_append_tabO _ rfl _ _ rfl Wa.heap.size (.slice (some ⟨g, 0, none⟩) k cp) (xs.map Tx.pr) wi.heap.size 0 1 1 [(lo, .slice (some ⟨g6, 0, none⟩) j cp6)] rfl rfl rfl HR4.out two_cells_new ?h1 ?hl ?hb ?_)
          case h1 => first | rfl | (intro p hp; simp at hp; subst hp; rfl)
          case hl => first | omega | (rw [hus]; simp; omega)
          case hb => first | omega | (simp; omega)
          intro v' w5 hA5
          have hz : (xs.map Tx.pr ++ [(lo, Value.slice (some ⟨g6, 0, none⟩) j cp6)]).length = k + 1 := by simp [hus]
          obtain ⟨g5, cp5, rfl⟩ := hA5.form (.inr (by simp))
          have HA5 : Hid (AppT (wi.alloc (Obj.cells #[.string lo, .slice (some ⟨g6, 0, none⟩) j cp6] 56)) w5 (w.heap.size + 1 + 1) (.slice (some ⟨g, 0, none⟩) k cp) (.slice (some ⟨g5, 0, none⟩) (xs.map Tx.pr ++ [(lo, Value.slice (some ⟨g6, 0, none⟩) j cp6)]).length cp5) (xs.map Tx.pr) [(lo, .slice (some ⟨g6, 0, none⟩) j cp6)]) := hA5
          rw [hz] at HA5 ⊢
          clear hA5
          have HN : Hid (∃ xs' : List Tx, xs'.length = k + 1 ∧ xs'.map Tx.tb = (ts.take (k + 1)).map Ty.tb ∧ w5.ownsRow Wa.heap.size 56 2 (.slice (some ⟨g5, 0, none⟩) (k + 1) cp5) (k + 1) (cellsP (xs'.map Tx.pr)) ∧ OwnTs w5 Wa.heap.size xs' ∧ ApartT xs') := by
            obtain ⟨q1, q2, q3, q4, q5⟩ := HR.out
            obtain ⟨r1, r2, r3, r4, r5⟩ := HRi.out
            rw [List.take_of_length_le (by omega)] at r2
            have hA := HA5.out
            rw [← hza] at hA
            have hbz : Below wi.heap.size wi (wi.alloc (Obj.cells #[.string lo, .slice (some ⟨g6, 0, none⟩) j cp6] 56)) := (Below.refl _ _).alloc (Nat.le_refl _) _
            have hrow1 := World.ownsRow.alloc (row_below q3 hbw) (Obj.cells #[.string lo, .slice (some ⟨g6, 0, none⟩) j cp6] 56)
            have hro : OwnRow wi (wo.heap.size + 1) (.slice (some ⟨g6, 0, none⟩) j cp6) rs := OwnRow.of (us := rs.map Rw.u) (by rw [List.length_map, r1]; exact r3) rfl
            have ht1 : OwnTs wi Wa.heap.size (xs ++ [⟨lo, .slice (some ⟨g6, 0, none⟩) j cp6, rs⟩]) := (q4.below hbw).snoc (hro.mono (by omega)) (fun r hr => (r4 r hr).mono (by omega))
            have ht2 : OwnTs w5 Wa.heap.size (xs ++ [⟨lo, .slice (some ⟨g6, 0, none⟩) j cp6, rs⟩]) := (ht1.below hbz).grown hrow1 hA.grown
            refine ⟨xs ++ [⟨lo, .slice (some ⟨g6, 0, none⟩) j cp6, rs⟩], by simp [q1], ?_, ?_, ht2, ?_⟩
            · rw [List.take_add_one, HD.out.1, List.map_append, List.map_append, q2]
              simp [Tx.tb, Ty.tb, r2]
            · have h5 := hA.row
              rw [hz] at h5
              rw [List.map_append]
              exact h5
            · refine apartT_snoc (n := wo.heap.size) q5 (fun x hx r hr k' hk' => ((q4.ents x hx r hr).key hk').2) (fun r hr k' hk' => ?_) r5
              have := ((r4 r hr).key hk').1
              omega
          have hb5 : Below Wa.heap.size Wa w5 := ((hb.trans (hbw.mono hso)).alloc (by omega) _).grown HA5.out.grown (by simp; omega) (fun j hj => by cases hj; exact hg.1)
          clear hus hz n0 n1
          go_wp2_with fail
          go_roundw
          case rel =>
            go_light
            obtain ⟨xs', a1, a2, a3, a4, a5⟩ := HN.out
            exact ⟨k + 1, g5, cp5, xs', by omega, by go_num, rfl, a1, a2, a3, a4, a5, hb5⟩
          case measure => go_light; simp [intOf]; omega
    · have zk : ¬ (k : Int) < (ts.length : Int) := by omega
      obtain ⟨_, d1, d2, _⟩ := HWa.out wo hb
      have HF : Hid (xs.length = k ∧ OwnSt (wo.setCell ⟨w.heap.size + 1, 0, none⟩ (.slice (some ⟨g, 0, none⟩) k cp)) w.heap.size (.slice (some ⟨g, 0, none⟩) k cp) xs ∧ ApartT xs ∧ xs.map Tx.tb = ts.map Ty.tb ∧ Below w.heap.size w (wo.setCell ⟨w.heap.size + 1, 0, none⟩ (.slice (some ⟨g, 0, none⟩) k cp))) := by
        obtain ⟨q1, q2, q3, q4, q5⟩ := HR.out
        rw [List.take_of_length_le (by omega)] at q2
        have hq := row_set q3 (w.heap.size + 1) 0 (.slice (some ⟨g, 0, none⟩) k cp) (by omega)
        have ht := q4.set (w.heap.size + 1) 0 (.slice (some ⟨g, 0, none⟩) k cp) (by omega)
        exact ⟨q1, ⟨ownTRow_of (row_mono hq (by omega)) q1, fun t ht' => (ht.runs t ht').mono (by omega), fun t ht' r hr => (ht.ents t ht' r hr).mono (by omega)⟩, q5, q2, ((hba.trans (hb.mono (by omega))).setCell (by show w.heap.size ≤ w.heap.size + 1; omega) _)⟩
      go_wp2_with fail
      refine bodyPost_ret (v := .agg #[.slice (some ⟨g, 0, none⟩) k cp]) (by simp [results, Tryz.results30, go_sem, d1]) rfl ⟨g, cp, xs, by rw [HF.out.1], by rw [HF.out.1]; exact HF.out.2.1, HF.out.2.2.1, HF.out.2.2.2.1, HF.out.2.2.2.2⟩
end Go.Proofs.YtlgeffinhbodeafGreat

/-
  impl's replaced.
-/
namespace Go.Proofs.YtlgeffinhbodeafGreat
open Go.ChangeShapes Go.WideShapes Go.ChangeAt Go.RowKit Go.Deep
set_option linter.unusedVariables false
set_option linter.unusedSimpArgs false
set_option maxRecDepth 100000

def Ty.pr (t : Ty) : Pr := (t.lo, t.v)
theorem TysAt.cells {w : World} {b off : Nat} {ts : List Ty} (h : TysAt w b off ts) : ∀ j u, (ts.map Ty.pr)[j]? = some u → w.cell? ⟨b, off + j * 2, none⟩ = some (.string u.1) ∧ w.cell? ⟨b, off + j * 2 + 1, none⟩ = some u.2 := by
  intro j u hu
  rw [List.getElem?_map] at hu
  cases hp : ts[j]? with
  | none => rw [hp] at hu; cases hu
  | some p =>
    rw [hp] at hu
    simp at hu
    subst hu
    obtain ⟨h1, h2, _⟩ := h j p hp
    exact ⟨h1, h2⟩
theorem TysAt.one {w : World} {b off : Nat} {ts : List Ty} (h : TysAt w b off ts) : ∀ u ∈ ts.map Ty.pr, u.2.oneCell' = true := by
  intro u hu
  obtain ⟨t, ht, rfl⟩ := List.mem_map.1 hu
  obtain ⟨j, hj⟩ := List.getElem?_of_mem ht
  exact (h j t hj).2.2.one
theorem TysAt.take {w : World} {b off : Nat} {ts : List Ty} (h : TysAt w b off ts) (n : Nat) : TysAt w b off (ts.take n) := by
  intro i t ht
  rw [List.getElem?_take] at ht
  by_cases hi : i < n
  · rw [if_pos hi] at ht; exact h i t ht
  · rw [if_neg hi] at ht; cases ht
theorem TysAt.drop {w : World} {b off : Nat} {ts : List Ty} (h : TysAt w b off ts) (n : Nat) : TysAt w b (off + n * 2) (ts.drop n) := by
  intro i t ht
  rw [List.getElem?_drop] at ht
  have := h (n + i) t ht
  rw [show off + (n + i) * 2 = off + n * 2 + i * 2 by omega] at this
  exact this
theorem OwnSt.mono {w : World} {base base' : Nat} {v : Value} {ts : List Tx} (h : OwnSt w base v ts) (hb : base' ≤ base) : OwnSt w base' v ts := by
  refine ⟨?_, fun t ht => (h.runs t ht).mono hb, fun t ht r hr => (h.ents t ht r hr).mono hb⟩
  rcases h.row with q | ⟨g, cp, hv, hO⟩
  · exact .inl q
  · exact .inr ⟨g, cp, hv, hO.mono hb⟩
/-- Tablets read again out of a row of the call's own. -/
theorem tys_row {w : World} {base g n cp : Nat} {ts : List Ty} (h : w.ownsRow base 56 2 (.slice (some ⟨g, 0, none⟩) n cp) n (cellsP (ts.map Ty.pr))) (hn : n = ts.length) (hin : ∀ t ∈ ts, InRms w t.v t.l) : TysAt w g 0 ts := by
  subst hn
  have hO : OwnP w base g cp (ts.map Ty.pr) := by
    unfold OwnP
    rw [List.length_map]
    exact h
  intro i t ht
  obtain ⟨c0, c1⟩ := hO.cells (p := t.pr) (i := i) (by rw [List.getElem?_map, ht]; rfl)
  rw [Nat.zero_add]
  exact ⟨c0, c1, hin t (List.mem_of_getElem? ht)⟩

set_option maxHeartbeats 8000000 in
theorem implReplaced_core (b off cap : Nat) (ts os : List Ty) (fr til ob : Nat) (w : World) (h : TysAt w b off ts) (hB : b < w.heap.size) (ho : TysAt w ob 0 os) (hoB : ob < w.heap.size) (hn : ts.length ≤ 1000) (hon : os.length ≤ 1000) (hcap : ts.length ≤ cap) (hcm : cap ≤ maxLen) (h1 : fr ≤ til) (h2 : til ≤ ts.length) (h0 : 0 < os.length)
    (hs : ∀ t ∈ ts ++ os, t.l.length ≤ 1048576 ∧ totM t.l ≤ 1048576) :
    Calls Tryz.prog 46 #[.agg #[.slice (some ⟨b, off, none⟩) ts.length cap], .int .i64 fr, .int .i64 til, .slice (some ⟨ob, 0, none⟩) os.length os.length] w fun e w' => CpIPost w ((ts.take fr ++ os ++ ts.drop til).map Ty.tb) e w' := by
  obtain ⟨Wa, hWa⟩ : ∃ Wa : World, Wa = (w.alloc (Obj.cells #[.slice (some ⟨b, off, none⟩) ts.length cap] 30)).alloc (Obj.cells #[.slice none 0 0] 30) := ⟨_, rfl⟩
  have hba : Below w.heap.size w Wa := by rw [hWa]; exact ((Below.refl _ _).alloc (Nat.le_refl _) _).alloc (by simp) _
  have hza : Wa.heap.size = w.heap.size + 1 + 1 := by rw [hWa]; simp
  have HWa : Hid (∀ wx, Below Wa.heap.size Wa wx → wx.cell? ⟨w.heap.size, 0, none⟩ = some (.slice (some ⟨b, off, none⟩) ts.length cap) ∧ wx.cell? ⟨w.heap.size + 1, 0, none⟩ = some (.slice none 0 0) ∧ wx.frozen? ⟨w.heap.size + 1, 0, none⟩ = false ∧ TysAt wx b off ts ∧ TysAt wx ob 0 os) := by
    intro wx hx
    have sx := hx.size
    refine ⟨?_, ?_, ?_, (h.below hba hB).below hx (by omega), (ho.below hba hoB).below hx (by omega)⟩
    · rw [hx.cell (p := ⟨w.heap.size, 0, none⟩) (by show w.heap.size < Wa.heap.size; omega), hWa]; simp [go_sem]
    · rw [hx.cell (p := ⟨w.heap.size + 1, 0, none⟩) (by show w.heap.size + 1 < Wa.heap.size; omega), hWa]; simp [go_sem]
    · rw [hx.frozen (p := ⟨w.heap.size + 1, 0, none⟩) (by show w.heap.size + 1 < Wa.heap.size; omega), hWa]; simp [go_sem]
  have HS : Hid (∀ t ∈ ts ++ os, t.l.length ≤ 1048576 ∧ totM t.l ≤ 1048576) := hs
  unfold maxLen at hcm
  clear h ho hs
  obtain ⟨c0, _⟩ := HWa.out Wa (Below.refl _ _)
  have cd : Wa.drew.cell? ⟨w.heap.size, 0, none⟩ = some (.slice (some ⟨b, off, none⟩) ts.length cap) := by simpa using c0
  go_enter Tryz.func46, Tryz.ntmps46
  go_upto_region 1 with fail
  rw [← hWa]
  clear hWa
  have hS : (fun w' : World => w'.cell? ⟨w.heap.size, 0, none⟩ = some (.slice (some ⟨b, off, none⟩) ts.length cap)) Wa.drew := cd
  have hf1 : (fr : Int) ≤ (cap : Int) := by omega
  have ht1 : (til : Int) ≤ (ts.length : Int) := by omega
  have ht2 : (til : Int) ≤ (cap : Int) := by omega
  obtain ⟨X, hX⟩ : ∃ X, X = (if cap = til then off else off + til * 2) := ⟨_, rfl⟩
  have HX : Hid (X = (if cap = til then off else off + til * 2)) := hX
  clear hX
  refine wp_region_T 13 (fun w' : World => w'.cell? ⟨w.heap.size, 0, none⟩ = some (.slice (some ⟨b, off, none⟩) ts.length cap)) (by kernel_rfl) ?_
  refine anyT_take (i := 0) (v := ?vq0) rfl (by kernel_rfl) (by kernel_rfl) (by kernel_rfl) (by kernel_rfl) (by decide) (fun _ _ _ h => h) (Or.inl ⟨by rfl, ?yq0⟩) hS ?_
  case yq0 => (intro wz hSw; (try dsimp only at hSw); go_simp; (try with_reducible rfl))
  try simp only [Act.put, List.setIfInBounds_toArray, List.set_cons_zero, List.set_cons_succ]
  refine anyT_take (i := 1) (v := ?vq1) rfl (by kernel_rfl) (by kernel_rfl) (by kernel_rfl) (by kernel_rfl) (by decide) (fun _ _ _ h => h) (Or.inl ⟨by rfl, ?yq1⟩) hS ?_
  case yq1 => (intro wz hSw; (try dsimp only at hSw); go_simp; (try with_reducible rfl))
  try simp only [Act.put, List.setIfInBounds_toArray, List.set_cons_zero, List.set_cons_succ]
  refine anyT_take (i := 2) (v := ?vq2) rfl (by kernel_rfl) (by kernel_rfl) (by kernel_rfl) (by kernel_rfl) (by decide) (fun _ _ _ h => h) (Or.inl ⟨by rfl, ?yq2⟩) hS ?_
  case yq2 => (intro wz hSw; (try dsimp only at hSw); go_simp; (try with_reducible rfl))
  try simp only [Act.put, List.setIfInBounds_toArray, List.set_cons_zero, List.set_cons_succ]
  refine anyT_take (i := 3) (v := ?vq3) rfl (by kernel_rfl) (by kernel_rfl) (by kernel_rfl) (by kernel_rfl) (by decide) (fun _ _ _ h => h) (Or.inl ⟨by rfl, ?yq3⟩) hS ?_
  case yq3 => (intro wz hSw; (try dsimp only at hSw); go_simp; (try with_reducible rfl))
  try simp only [Act.put, List.setIfInBounds_toArray, List.set_cons_zero, List.set_cons_succ]
  refine anyT_take (i := 4) (v := ?vq4) rfl (by kernel_rfl) (by kernel_rfl) (by kernel_rfl) (by kernel_rfl) (by decide) (fun _ _ _ h => h) (Or.inl ⟨by rfl, ?yq4⟩) hS ?_
  case yq4 => (intro wz hSw; (try dsimp only at hSw); go_simp; (try with_reducible rfl))
  try simp only [Act.put, List.setIfInBounds_toArray, List.set_cons_zero, List.set_cons_succ]
  refine anyT_take (i := 5) (v := ?vq5) rfl (by kernel_rfl) (by kernel_rfl) (by kernel_rfl) (by kernel_rfl) (by decide) (fun _ _ _ h => h) (Or.inl ⟨by rfl, ?yq5⟩) hS ?_
  case yq5 => (intro wz hSw; (try dsimp only at hSw); go_simp; (try with_reducible rfl))
  try simp only [Act.put, List.setIfInBounds_toArray, List.set_cons_zero, List.set_cons_succ]
  refine anyT_take (i := 6) (v := ?vq6) rfl (by kernel_rfl) (by kernel_rfl) (by kernel_rfl) (by kernel_rfl) (by decide) (fun _ _ _ h => h) (Or.inl ⟨by rfl, ?yq6⟩) hS ?_
  case yq6 => (intro wz hSw; (try dsimp only at hSw); go_simp; (try with_reducible rfl))
  try simp only [Act.put, List.setIfInBounds_toArray, List.set_cons_zero, List.set_cons_succ]
  refine anyT_take (i := 7) (v := ?vq7) rfl (by kernel_rfl) (by kernel_rfl) (by kernel_rfl) (by kernel_rfl) (by decide) (fun _ _ _ h => h) (Or.inl ⟨by rfl, ?yq7⟩) hS ?_
  case yq7 => (intro wz hSw; (try dsimp only at hSw); go_simp; (try with_reducible rfl))
  try simp only [Act.put, List.setIfInBounds_toArray, List.set_cons_zero, List.set_cons_succ]
  refine anyT_take (i := 8) (v := .slice (some ⟨b, X, none⟩) (ts.length - til) (cap - til)) rfl (by kernel_rfl) (by kernel_rfl) (by kernel_rfl) (by kernel_rfl) (by decide) (fun _ _ _ h => h) (Or.inl ⟨by rfl, ?yq8⟩) hS ?_
  case yq8 =>
    intro wz hSw
    by_cases hct : cap = til
    · have hX2 : X = off := by rw [HX.out, if_pos hct]
      have hz : cap - til = 0 := by omega
      rw [hX2, hz]
      go_simp
      try with_reducible rfl
    · have hX2 : X = off + til * 2 := by rw [HX.out, if_neg hct]
      rw [hX2]
      go_simp
      try with_reducible rfl
  try simp only [Act.put, List.setIfInBounds_toArray, List.set_cons_zero, List.set_cons_succ]
  refine anyT_one (i := 9) (by kernel_rfl) rfl (fun K hK => ?_)
  go_simp
  obtain ⟨W1, hW1⟩ : ∃ W1 : World, W1 = (Wa.alloc (Obj.cells #[.slice (some ⟨b, off, none⟩) fr cap, .slice (some ⟨ob, 0, none⟩) os.length os.length, .slice (some ⟨b, X, none⟩) (ts.length - til) (cap - til)] 28)).drew := ⟨_, rfl⟩
  have hb1 : Below Wa.heap.size Wa W1 := by rw [hW1]; exact ((Below.refl _ _).alloc (Nat.le_refl _) _).drew
  have hz1 : W1.heap.size = w.heap.size + 1 + 1 + 1 := by rw [hW1]; simp [hza]
  obtain ⟨p0, _, _, hT1, hO1⟩ := HWa.out W1 hb1
  have HPs : Hid (PtsAtT W1 (w.heap.size + 1 + 1) [⟨b, off, cap, (ts.take fr).map Ty.pr⟩, ⟨ob, 0, os.length, os.map Ty.pr⟩, ⟨b, X, cap - til, (ts.drop til).map Ty.pr⟩]) := by
    have k0 : W1.cell? ⟨w.heap.size + 1 + 1, 0, none⟩ = some (.slice (some ⟨b, off, none⟩) fr cap) := by rw [hW1, ← hza]; simp
    have k1 : W1.cell? ⟨w.heap.size + 1 + 1, 1, none⟩ = some (.slice (some ⟨ob, 0, none⟩) os.length os.length) := by rw [hW1, ← hza]; simp
    have k2 : W1.cell? ⟨w.heap.size + 1 + 1, 2, none⟩ = some (.slice (some ⟨b, X, none⟩) (ts.length - til) (cap - til)) := by rw [hW1, ← hza]; simp
    have l1 : ((ts.take fr).map Ty.pr).length = fr := by rw [List.length_map, List.length_take]; omega
    have l3 : ((ts.drop til).map Ty.pr).length = ts.length - til := by rw [List.length_map, List.length_drop]
    intro i p hp
    match i, hp with
    | 0, hp =>
      obtain rfl := Option.some.inj hp
      exact ⟨by rw [k0, l1], ⟨(hT1.take fr).cells, (hT1.take fr).one, by show b < _; omega⟩⟩
    | 1, hp =>
      obtain rfl := Option.some.inj hp
      exact ⟨by rw [k1, List.length_map], ⟨hO1.cells, hO1.one, by show ob < _; omega⟩⟩
    | 2, hp =>
      obtain rfl := Option.some.inj hp
      refine ⟨by rw [k2, l3], ?_⟩
      by_cases hct : cap = til
      · have hd : ts.drop til = [] := List.drop_eq_nil_of_le (by omega)
        rw [hd]
        exact ⟨fun j u hu => by simp at hu, fun u hu => by simp at hu, by show b < _; omega⟩
      · have hX2 : X = off + til * 2 := by rw [HX.out, if_neg hct]
        rw [hX2]
        exact ⟨(hT1.drop til).cells, (hT1.drop til).one, by show b < _; omega⟩
    | n + 3, hp => simp at hp
  have HIn : Hid (∀ t ∈ ts.take fr ++ os ++ ts.drop til, InRms W1 t.v t.l ∧ t.l.length ≤ 1048576 ∧ totM t.l ≤ 1048576) := by
    intro t ht
    rcases List.mem_append.1 ht with ht | ht
    · rcases List.mem_append.1 ht with ht | ht
      · have hm := List.mem_of_mem_take ht
        obtain ⟨j, hj⟩ := List.getElem?_of_mem hm
        exact ⟨(hT1 j t hj).2.2, HS.out t (List.mem_append_left _ hm)⟩
      · obtain ⟨j, hj⟩ := List.getElem?_of_mem ht
        exact ⟨(hO1 j t hj).2.2, HS.out t (List.mem_append_right _ ht)⟩
    · have hm := List.mem_of_mem_drop ht
      obtain ⟨j, hj⟩ := List.getElem?_of_mem hm
      exact ⟨(hT1 j t hj).2.2, HS.out t (List.mem_append_left _ hm)⟩
  have hall : allP [⟨b, off, cap, (ts.take fr).map Ty.pr⟩, ⟨ob, 0, os.length, os.map Ty.pr⟩, ⟨b, X, cap - til, (ts.drop til).map Ty.pr⟩] = (ts.take fr ++ os ++ ts.drop til).map Ty.pr := by
    simp [allP]
  obtain ⟨nts, hnts⟩ : ∃ nts, nts = ts.take fr ++ os ++ ts.drop til := ⟨_, rfl⟩
  have hnl : 0 < nts.length ∧ nts.length ≤ 3000 := by
    rw [hnts]
    simp
    omega
  rw [← hnts] at hall HIn
  have HNts : Hid (nts = ts.take fr ++ os ++ ts.drop til) := hnts
  clear hnts
  rw [← hW1]
  refine hK.out _ _ (.inr p0) ?_
  clear hK hW1 hT1 hO1
  try simp only [Act.put, List.setIfInBounds_toArray, List.set_cons_zero, List.set_cons_succ]
  refine anyT_one (i := 10) (by kernel_rfl) rfl (fun K hK => ?_)
  go_simp
  go_at_call 76
  refine (concatT_core (w.heap.size + 1 + 1) _ _ HPs.out (by omega) (by rw [hall, List.length_map]; omega) (by simp)).mono ?_
  rintro r w2 ⟨v, rfl, hO2, hb2⟩
  rw [hall, List.length_map] at hO2
  obtain ⟨g, cp, rfl⟩ : ∃ g cp, v = .slice (some ⟨g, 0, none⟩) nts.length cp := by
    rcases hO2.2 with ⟨_, q⟩ | ⟨g, cp, cur, q, _⟩
    · omega
    · exact ⟨g, cp, q⟩
  have s2 := hb2.size
  have hgl := World.ownsRow.lt hO2 g rfl
  have hb12 : Below Wa.heap.size Wa w2 := hb1.trans (hb2.mono (by omega))
  have HT2 : Hid (TysAt w2 g 0 nts ∧ g < w2.heap.size ∧ ∀ t ∈ nts, t.l.length ≤ 1048576 ∧ totM t.l ≤ 1048576) := ⟨tys_row hO2 rfl (fun t ht => (HIn.out t ht).1.below hb2), hgl.2, fun t ht => (HIn.out t ht).2⟩
  obtain ⟨q0, _, _, _⟩ := HWa.out w2 hb12
  refine hK.out _ _ (.inr q0) ?_
  clear hK hO2
  try simp only [Act.put, List.setIfInBounds_toArray, List.set_cons_zero, List.set_cons_succ]
  refine anyT_take (i := 11) (v := ?vq11) rfl (by kernel_rfl) (by kernel_rfl) (by kernel_rfl) (by kernel_rfl) (by decide) (fun _ _ _ h => h) (Or.inl ⟨by rfl, ?yq11⟩) q0 ?_
  case yq11 => (intro wz hSw; (try dsimp only at hSw); go_simp; (try with_reducible rfl))
  try simp only [Act.put, List.setIfInBounds_toArray, List.set_cons_zero, List.set_cons_succ]
  refine anyT_one (i := 12) (by kernel_rfl) rfl (fun K hK => ?_)
  go_simp
  go_at_call 30
  refine (implCopied_core g 0 cp nts _ HT2.out.1 HT2.out.2.1 (by omega) HT2.out.2.2).mono ?_
  rintro r w3 ⟨g3, cp3, xs, rfl, hS3, hA3, hE3, hb3⟩
  have s3 := hb3.size
  have hb13 : Below Wa.heap.size Wa w3 := hb12.trans (hb3.mono hb12.size)
  have HF : Hid (OwnSt w3 w2.heap.size (.slice (some ⟨g3, 0, none⟩) xs.length cp3) xs ∧ ApartT xs ∧ xs.map Tx.tb = nts.map Ty.tb) := ⟨hS3, hA3, hE3⟩
  clear q0
  obtain ⟨q0, q1, q2, _⟩ := HWa.out w3 hb13
  refine hK.out _ _ (.inr q0) ?_
  clear hK hS3 hA3 hE3
  try simp only [Act.put, List.setIfInBounds_toArray, List.set_cons_zero, List.set_cons_succ]
  refine anyT_one (i := 13) (by kernel_rfl) rfl (fun K hK => ?_)
  go_simp
  refine hK.out _ _ (.inl rfl) ?_
  clear hK
  try simp only [Act.put, List.setIfInBounds_toArray, List.set_cons_zero, List.set_cons_succ]
  refine anyT_done (by kernel_rfl) ?_
  have HG : Hid (OwnSt (w3.setCell ⟨w.heap.size + 1, 0, none⟩ (.slice (some ⟨g3, 0, none⟩) xs.length cp3)) w.heap.size (.slice (some ⟨g3, 0, none⟩) xs.length cp3) xs ∧ Below w.heap.size w (w3.setCell ⟨w.heap.size + 1, 0, none⟩ (.slice (some ⟨g3, 0, none⟩) xs.length cp3))) := by
    refine ⟨?_, (hba.trans (hb13.mono (by omega))).setCell (by show w.heap.size ≤ w.heap.size + 1; omega) _⟩
    have h5 := HF.out.1.chg (Chg.of_set w3 (w.heap.size + 1) 0 (.slice (some ⟨g3, 0, none⟩) xs.length cp3) (S := fun k => k = w.heap.size + 1) rfl) (fun k hk _ q => by omega)
    exact h5.mono (by omega)
  go_wp2_with fail
  refine bodyPost_ret (v := .agg #[.slice (some ⟨g3, 0, none⟩) xs.length cp3]) (by simp [results, Tryz.results46, go_sem, q1]) rfl ⟨g3, cp3, xs, rfl, HG.out.1, HF.out.2.1, by rw [HF.out.2.2, HNts.out]; simp, HG.out.2⟩
end Go.Proofs.YtlgeffinhbodeafGreat

/-
  impl.ValidStore.
-/
namespace Go.Proofs.YtlgeffinhbodeafGreat
open Go.ChangeShapes Go.WideShapes Go.ChangeAt Go.RowKit Go.Deep
set_option linter.unusedVariables false
set_option linter.unusedSimpArgs false
set_option maxRecDepth 100000

/-- A call tells whether 'P'. -/
def SayB (P : Prop) (w : World) (e : Ending) (w' : World) : Prop := ∃ r : Bool, e = .returned (.bool r) ∧ (r = true ↔ P) ∧ Below w.heap.size w w'
theorem bool_ex (P : Prop) : ∃ r : Bool, (r = true ↔ P) := by
  classical
  exact ⟨decide P, by simp⟩
theorem validRuns_det (t : Tm) (lo hi : ByteArray) (hh : Bool) (w : World) (ht : t.at w) (hok : OkTm t) (R : Bool) (hR : R = true ↔ GoodRs (esM t.l) ∧ RowsIn lo hh hi (esM t.l)) :
    Calls Tryz.prog 56 #[.agg #[.string t.lo, .slice (some ⟨t.b, t.off, none⟩) t.l.length t.cap], .agg #[.string lo, .bool hh, .string hi]] w fun e w' =>
      e = .returned (.bool R) ∧ Below w.heap.size w w' :=
  (validRuns_core t lo hi hh w ht hok).mono fun e w' ⟨r, h1, h2, h3⟩ => by
    have : r = R := by rw [Bool.eq_iff_iff, h2, hR]
    subst this
    exact ⟨h1, h3⟩
theorem size_empty {b : ByteArray} : b.toList.isEmpty = true ↔ b.size = 0 := by rw [isE]; exact decide_eq_true_iff

set_option maxHeartbeats 8000000 in
theorem implValidStore_say (b off cap : Nat) (ts : List Tm) (w : World) (h : TmsAt w b off ts) (hok : okTs ts) (hB : b < w.heap.size) (hn : ts.length ≤ 1048576) :
    Calls Tryz.prog 28 #[.agg #[.slice (some ⟨b, off, none⟩) ts.length cap]] w fun e w' => SayB (GoodS (tbs ts)) w e w' := by
  obtain ⟨W0, hW0⟩ : ∃ W0 : World, W0 = w.alloc (Obj.cells #[.slice (some ⟨b, off, none⟩) ts.length cap] 30) := ⟨_, rfl⟩
  have hb0 : Below w.heap.size w W0 := by rw [hW0]; exact (Below.refl _ _).alloc (Nat.le_refl _) _
  have hz0 : W0.heap.size = w.heap.size + 1 := by rw [hW0]; simp
  have HC : Hid (∀ wx, Below W0.heap.size W0 wx → wx.cell? ⟨w.heap.size, 0, none⟩ = some (.slice (some ⟨b, off, none⟩) ts.length cap)) := by
    intro wx hb
    rw [hb.cell (p := ⟨w.heap.size, 0, none⟩) (by show w.heap.size < W0.heap.size; omega), hW0]; simp
  have HT : Hid (TmsAt W0 b off ts ∧ okTs ts) := ⟨h.below hb0 hB, hok⟩
  have hB0 : b < W0.heap.size := by omega
  clear h hok
  by_cases h1 : ts.length = 0
  · have H : Hid (¬ GoodS (tbs ts)) := fun q => by have := q.ne; rw [tbs_len] at this; omega
    have z1 : (ts.length : Int) < 1 := by omega
    clear h1
    go_enter Tryz.func28, Tryz.ntmps28
    go_wp2_with fail
    go_ret
    rw [← hW0]
    exact ⟨_, rfl, iffF H.out, hb0⟩
  by_cases h2 : 100 < ts.length
  · have H : Hid (¬ GoodS (tbs ts)) := fun q => by have := q.le; rw [tbs_len] at this; omega
    have z1 : ¬ (ts.length : Int) < 1 := by omega
    have z2 : (100 : Int) < ts.length := by omega
    go_enter Tryz.func28, Tryz.ntmps28
    go_wp2_with fail
    go_ret
    rw [← hW0]
    exact ⟨_, rfl, iffF H.out, hb0⟩
  have z1 : ¬ (ts.length : Int) < 1 := by omega
  have z2 : ¬ (100 : Int) < ts.length := by omega
  obtain ⟨t0, ht0⟩ : ∃ t, ts[0]? = some t := ⟨_, List.getElem?_eq_getElem (by omega)⟩
  have c0 := HC.out W0 (Below.refl _ _)
  have d0 := (HT.out.1 0 t0 ht0).1
  rw [Nat.zero_mul, Nat.add_zero] at d0
  have H0 : Hid (ts[0]? = some t0) := ht0
  clear ht0
  cases he : t0.lo.toList.isEmpty
  · have H : Hid (¬ GoodS (tbs ts)) := fun q => by
      have := q.first t0.tb (by rw [tbs_get, H0.out]; rfl)
      have h3 : t0.lo.toList.isEmpty = true := size_empty.2 this
      rw [he] at h3
      cases h3
    go_enter Tryz.func28, Tryz.ntmps28
    go_upto_region 1 with fail
    rw [← hW0]
    clear hW0
    go_wp2_with fail
    go_ret
    exact ⟨_, rfl, iffF H.out, hb0⟩
  have HF : Hid (∀ t, ts[0]? = some t → t.lo.size = 0) := fun t ht => by
    rw [H0.out] at ht
    cases ht
    exact size_empty.1 he
  go_enter Tryz.func28, Tryz.ntmps28
  go_upto_region 1 with fail
  rw [← hW0]
  clear hW0
  go_wp2_with fail
  clear c0 d0 he
  go_loopw [26] (fun i wr => ∃ (k : Nat), k ≤ ts.length ∧ i = .int .i64 k ∧ (∀ j t, j < k → ts[j]? = some t → GoodT (tbs ts) j t.tb) ∧ Below W0.heap.size W0 wr) (fun i _ => ts.length - (intOf i).toNat)
  case atStart => exact ⟨0, Nat.zero_le _, rfl, fun j t hj => by omega, Below.refl _ _⟩
  case round =>
    obtain ⟨k, hk, rfl, hv, hb⟩ := hrel
    have HV : Hid (∀ j t, j < k → ts[j]? = some t → GoodT (tbs ts) j t.tb) := hv
    have hsz := hb.size
    have hbx := hb0.trans (hb.mono (by omega))
    clear hv
    by_cases hlt : k < ts.length
    · obtain ⟨t, ht⟩ : ∃ t, ts[k]? = some t := ⟨_, List.getElem?_eq_getElem hlt⟩
      obtain ⟨c0, c1, ha⟩ := (HT.out.1.below hb hB0) k t ht
      have HA : Hid (t.at wr ∧ ts[k]? = some t ∧ OkTm t) := ⟨ha, ht, HT.out.2 t (List.mem_of_getElem? ht)⟩
      have hrl : t.l.length ≤ 1048576 := HA.out.2.2.runs
      have hsl : t.lo.size ≤ maxLen := HA.out.2.2.lo
      unfold maxLen at hsl
      clear ha ht
      obtain ⟨W1, hW1⟩ : ∃ W1 : World, W1 = wr.alloc (Obj.cells #[.string t.lo, .slice (some ⟨t.b, t.off, none⟩) t.l.length t.cap] 56) := ⟨_, rfl⟩
      have hbA : Below wr.heap.size wr W1 := by rw [hW1]; exact (Below.refl _ _).alloc (Nat.le_refl _) _
      have hzA : W1.heap.size = wr.heap.size + 1 := by rw [hW1]; simp
      have hbz : Below W0.heap.size W0 W1 := hb.trans (hbA.mono hsz)
      have hbzx : Below w.heap.size w W1 := hb0.trans (hbz.mono (by omega))
      have cR : ∀ n : Out W1, n.u.cell? ⟨wr.heap.size, 0, none⟩ = some (.string t.lo) := fun n => by
        rw [n.out.cell (p := ⟨wr.heap.size, 0, none⟩) (by show wr.heap.size < W1.heap.size; omega), hW1]; simp
      have cU : ∀ n : Out W1, n.u.cell? ⟨wr.heap.size, 1, none⟩ = some (.slice (some ⟨t.b, t.off, none⟩) t.l.length t.cap) := fun n => by
        rw [n.out.cell (p := ⟨wr.heap.size, 1, none⟩) (by show wr.heap.size < W1.heap.size; omega), hW1]; simp
      have cS : ∀ n : Out W1, n.u.cell? ⟨w.heap.size, 0, none⟩ = some (.slice (some ⟨b, off, none⟩) ts.length cap) := fun n => HC.out n.u (hbz.trans (n.out.mono (by omega)))
      have inh : Nonempty (Out W1) := ⟨⟨W1, Below.refl _ _⟩⟩
      have zk : (k : Int) < (ts.length : Int) := by omega
      have hB1 : b < W1.heap.size := by omega
      have HT1 : Hid (TmsAt W1 b off ts) := HT.out.1.below hbz hB0
      by_cases hk0 : k = 0
      · have hg : decide (0 < k) = false := decide_eq_false (by omega)
        have HK : Hid (k = 0) := hk0
        clear hk0
        go_upto_region 6 with fail
        rw [← hW1]
        clear hW1
        refine wp_region_out (by kernel_rfl) (by kernel_rfl) ?_
        repeat (go_big_quiet_step (fail))
        refine wpQuiet_nil ?_
        rintro wy ⟨⟨wx, hby⟩, rfl⟩
        have sy := hby.size
        have hbyx : Below w.heap.size w wy := hbzx.trans (hby.mono (by omega))
        have hbyz : Below W0.heap.size W0 wy := hbz.trans (hby.mono (by omega))
        have cR' : ∀ n : Out wy, n.u.cell? ⟨wr.heap.size, 0, none⟩ = some (.string t.lo) := fun n => cR ⟨n.u, hby.trans (n.out.mono sy)⟩
        have cU' : ∀ n : Out wy, n.u.cell? ⟨wr.heap.size, 1, none⟩ = some (.slice (some ⟨t.b, t.off, none⟩) t.l.length t.cap) := fun n => cU ⟨n.u, hby.trans (n.out.mono sy)⟩
        have cS' : ∀ n : Out wy, n.u.cell? ⟨w.heap.size, 0, none⟩ = some (.slice (some ⟨b, off, none⟩) ts.length cap) := fun n => cS ⟨n.u, hby.trans (n.out.mono sy)⟩
        have inh' : Nonempty (Out wy) := ⟨⟨wy, Below.refl _ _⟩⟩
        have HTy : Hid (∀ n : Out wy, TmsAt n.u b off ts ∧ b < n.u.heap.size ∧ t.at n.u) := fun n => ⟨(HT1.out.below hby hB1).below n.out (by omega), by have := n.out.size; omega, ((HA.out.1.below hbA).below hby).below n.out⟩
        clear cR cU cS
        by_cases hl : 64 < t.lo.size
        · have H : Hid (¬ GoodS (tbs ts)) := fun q => by
            have h3 : t.lo.size ≤ 64 := (goodS_at q HA.out.2.1).size
            omega
          have hd : decide ((64 : Int) < (t.lo.size : Int)) = true := decide_eq_true (by omega)
          clear hl
          go_upto_region 8 with fail
          refine wp_region_out (by kernel_rfl) (by kernel_rfl) ?_
          repeat (go_big_quiet_step (fail))
          refine wpQuiet_nil ?_
          rintro wz ⟨⟨wx', hbz'⟩, rfl⟩
          have hbw : Below w.heap.size w wz := hbyx.trans (hbz'.mono (by omega))
          go_wp2_with fail
          go_ret
          exact ⟨_, rfl, iffF H.out, hbw⟩
        · have hd : decide ((64 : Int) < (t.lo.size : Int)) = false := decide_eq_false (by omega)
          obtain ⟨R, hR⟩ := bool_ex (GoodRs (esM t.l) ∧ RowsIn t.lo (hasN (tbs ts) k) (hiN (tbs ts) k) (esM t.l))
          have HR : Hid (R = true ↔ GoodRs (esM t.l) ∧ RowsIn t.lo (hasN (tbs ts) k) (hiN (tbs ts) k) (esM t.l)) := hR
          have HL : Hid (¬ 64 < t.lo.size) := hl
          clear hR hl
          go_upto_region 8 with fail
          refine wp_region_out (by kernel_rfl) (by kernel_rfl) ?_
          repeat (go_big_quiet_step ((first
            | (go_at_call 57; exact Calls.out_of (rowsIn_core b off cap ts k t _ (HTy.out _).1 (HTy.out _).2.1 HA.out.2.1 hn))
            | (go_at_call 56; exact Calls.out_of (validRuns_det t t.lo (hiN (tbs ts) k) (hasN (tbs ts) k) _ (HTy.out _).2.2 HA.out.2.2 R HR.out)))))
          refine wpQuiet_nil ?_
          rintro wz ⟨⟨wx', hbz'⟩, rfl⟩
          have hbw : Below w.heap.size w wz := hbyx.trans (hbz'.mono (by omega))
          have hbw0 : Below W0.heap.size W0 wz := hbyz.trans (hbz'.mono (by omega))
          cases R
          · have H : Hid (¬ GoodS (tbs ts)) := fun q => by
              have h3 := goodS_at q HA.out.2.1
              exact Bool.noConfusion (HR.out.2 ⟨h3.runs, h3.rows⟩)
            go_wp2_with fail
            go_ret
            exact ⟨_, rfl, iffF H.out, hbw⟩
          · have H : Hid (∀ j t, j < k + 1 → ts[j]? = some t → GoodT (tbs ts) j t.tb) := fun j u hj hu => by
              by_cases hjk : j < k
              · exact HV.out j u hjk hu
              · have : j = k := by omega
                subst this
                rw [HA.out.2.1] at hu
                cases hu
                refine ⟨?_, fun p hp => by have := HK.out; omega, (HR.out.1 rfl).1, (HR.out.1 rfl).2⟩
                have := HL.out
                show t.lo.size ≤ 64
                omega
            go_wp2_with fail
            go_roundw
            case rel => exact ⟨k + 1, by omega, by go_num, H.out, hbw0⟩
            case measure => go_light; simp [intOf]; omega
      · obtain ⟨p, hp⟩ : ∃ p, ts[k - 1]? = some p := ⟨_, List.getElem?_eq_getElem (by omega)⟩
        obtain ⟨p0, p1, p2⟩ := tmsAt_out HT1.out hB1 hp
        clear p1 p2
        have HP : Hid (ts[k - 1]? = some p) := hp
        clear hp
        have hg : decide (0 < k) = true := decide_eq_true (by omega)
        have em : (k : Int) - 1 = ((k - 1 : Nat) : Int) := by omega
        cases hlo : Op.bytesLess p.lo.toList t.lo.toList
        · have hle : (Op.bytesLess t.lo.toList p.lo.toList || t.lo.toList == p.lo.toList) = true := by rw [le_less, hlo]; rfl
          have H : Hid (¬ GoodS (tbs ts)) := fun q => by
            have h3 := (goodS_at q HA.out.2.1).up p.tb (by omega) (by rw [tbs_get, HP.out]; rfl)
            have h4 : Op.bytesLess p.lo.toList t.lo.toList = true := h3
            rw [hlo] at h4
            cases h4
          clear hlo
          go_upto_region 6 with fail
          rw [← hW1]
          clear hW1
          refine wp_region_out (by kernel_rfl) (by kernel_rfl) ?_
          repeat (go_big_quiet_step (fail))
          refine wpQuiet_nil ?_
          rintro wy ⟨⟨wx, hby⟩, rfl⟩
          have hbyx : Below w.heap.size w wy := hbzx.trans (hby.mono (by omega))
          go_wp2_with fail
          go_ret
          exact ⟨_, rfl, iffF H.out, hbyx⟩
        · have HLO : Hid (Op.bytesLess p.lo.toList t.lo.toList = true) := hlo
          have hle : (Op.bytesLess t.lo.toList p.lo.toList || t.lo.toList == p.lo.toList) = false := by rw [le_less, hlo]; rfl
          clear hlo
          go_upto_region 6 with fail
          rw [← hW1]
          clear hW1
          refine wp_region_out (by kernel_rfl) (by kernel_rfl) ?_
          repeat (go_big_quiet_step (fail))
          refine wpQuiet_nil ?_
          rintro wy ⟨⟨wx, hby⟩, rfl⟩
          have sy := hby.size
          have hbyx : Below w.heap.size w wy := hbzx.trans (hby.mono (by omega))
          have hbyz : Below W0.heap.size W0 wy := hbz.trans (hby.mono (by omega))
          have cR' : ∀ n : Out wy, n.u.cell? ⟨wr.heap.size, 0, none⟩ = some (.string t.lo) := fun n => cR ⟨n.u, hby.trans (n.out.mono sy)⟩
          have cU' : ∀ n : Out wy, n.u.cell? ⟨wr.heap.size, 1, none⟩ = some (.slice (some ⟨t.b, t.off, none⟩) t.l.length t.cap) := fun n => cU ⟨n.u, hby.trans (n.out.mono sy)⟩
          have cS' : ∀ n : Out wy, n.u.cell? ⟨w.heap.size, 0, none⟩ = some (.slice (some ⟨b, off, none⟩) ts.length cap) := fun n => cS ⟨n.u, hby.trans (n.out.mono sy)⟩
          have inh' : Nonempty (Out wy) := ⟨⟨wy, Below.refl _ _⟩⟩
          have HTy : Hid (∀ n : Out wy, TmsAt n.u b off ts ∧ b < n.u.heap.size ∧ t.at n.u) := fun n => ⟨(HT1.out.below hby hB1).below n.out (by omega), by have := n.out.size; omega, ((HA.out.1.below hbA).below hby).below n.out⟩
          clear cR cU cS
          by_cases hl : 64 < t.lo.size
          · have H : Hid (¬ GoodS (tbs ts)) := fun q => by
              have h3 : t.lo.size ≤ 64 := (goodS_at q HA.out.2.1).size
              omega
            have hd : decide ((64 : Int) < (t.lo.size : Int)) = true := decide_eq_true (by omega)
            clear hl
            go_upto_region 8 with fail
            refine wp_region_out (by kernel_rfl) (by kernel_rfl) ?_
            repeat (go_big_quiet_step (fail))
            refine wpQuiet_nil ?_
            rintro wz ⟨⟨wx', hbz'⟩, rfl⟩
            have hbw : Below w.heap.size w wz := hbyx.trans (hbz'.mono (by omega))
            go_wp2_with fail
            go_ret
            exact ⟨_, rfl, iffF H.out, hbw⟩
          · have hd : decide ((64 : Int) < (t.lo.size : Int)) = false := decide_eq_false (by omega)
            obtain ⟨R, hR⟩ := bool_ex (GoodRs (esM t.l) ∧ RowsIn t.lo (hasN (tbs ts) k) (hiN (tbs ts) k) (esM t.l))
            have HR : Hid (R = true ↔ GoodRs (esM t.l) ∧ RowsIn t.lo (hasN (tbs ts) k) (hiN (tbs ts) k) (esM t.l)) := hR
            have HL : Hid (¬ 64 < t.lo.size) := hl
            clear hR hl
            go_upto_region 8 with fail
            refine wp_region_out (by kernel_rfl) (by kernel_rfl) ?_
            repeat (go_big_quiet_step ((first
              | (go_at_call 57; exact Calls.out_of (rowsIn_core b off cap ts k t _ (HTy.out _).1 (HTy.out _).2.1 HA.out.2.1 hn))
              | (go_at_call 56; exact Calls.out_of (validRuns_det t t.lo (hiN (tbs ts) k) (hasN (tbs ts) k) _ (HTy.out _).2.2 HA.out.2.2 R HR.out)))))
            refine wpQuiet_nil ?_
            rintro wz ⟨⟨wx', hbz'⟩, rfl⟩
            have hbw : Below w.heap.size w wz := hbyx.trans (hbz'.mono (by omega))
            have hbw0 : Below W0.heap.size W0 wz := hbyz.trans (hbz'.mono (by omega))
            cases R
            · have H : Hid (¬ GoodS (tbs ts)) := fun q => by
                have h3 := goodS_at q HA.out.2.1
                exact Bool.noConfusion (HR.out.2 ⟨h3.runs, h3.rows⟩)
              go_wp2_with fail
              go_ret
              exact ⟨_, rfl, iffF H.out, hbw⟩
            · have H : Hid (∀ j t, j < k + 1 → ts[j]? = some t → GoodT (tbs ts) j t.tb) := fun j u hj hu => by
                by_cases hjk : j < k
                · exact HV.out j u hjk hu
                · have : j = k := by omega
                  subst this
                  rw [HA.out.2.1] at hu
                  cases hu
                  refine ⟨?_, fun q _ hq => ?_, (HR.out.1 rfl).1, (HR.out.1 rfl).2⟩
                  · have := HL.out
                    show t.lo.size ≤ 64
                    omega
                  · rw [tbs_get, HP.out] at hq
                    cases hq
                    exact HLO.out
              go_wp2_with fail
              go_roundw
              case rel => exact ⟨k + 1, by omega, by go_num, H.out, hbw0⟩
              case measure => go_light; simp [intOf]; omega
    · have zk : ¬ (k : Int) < (ts.length : Int) := by omega
      have H : Hid (GoodS (tbs ts)) := goodS_of (by omega) (by omega) HF.out (fun i t ht => HV.out i t (by have := (List.getElem?_eq_some_iff.1 ht).1; omega) ht)
      go_wp2_with fail
      go_ret
      exact ⟨_, rfl, iffT H.out, hbx⟩
theorem implValidStore_core (b off cap : Nat) (ts : List Tm) (w : World) (h : TmsAt w b off ts) (hok : okTs ts) (hB : b < w.heap.size) (hn : ts.length ≤ 1048576) :
    Calls Tryz.prog 28 #[.agg #[.slice (some ⟨b, off, none⟩) ts.length cap]] w fun e w' =>
      ∃ r : Bool, e = .returned (.bool r) ∧ (r = true ↔ GoodS (tbs ts)) ∧ Below w.heap.size w w' := implValidStore_say b off cap ts w h hok hB hn
end Go.Proofs.YtlgeffinhbodeafGreat

/-
  spec.ValidStore.
-/
namespace Go.Proofs.YtlgeffinhbodeafGreat
open Go.ChangeShapes Go.WideShapes Go.ChangeAt Go.RowKit Go.Deep
set_option linter.unusedVariables false
set_option linter.unusedSimpArgs false
set_option maxRecDepth 100000

theorem goodRuns_det (b off cap : Nat) (l : List Rm) (w : World) (hR : RmsAt w b off l) (hok : okM l) (hB : b < w.heap.size) (hlen : l.length ≤ 1048576) (R : Bool) (h : R = true ↔ GoodRs (esM l)) :
    Calls Tryz.prog 49 #[.slice (some ⟨b, off, none⟩) l.length cap] w fun e w' => e = .returned (.bool R) ∧ Below w.heap.size w w' :=
  (goodRuns_core b off cap l w hR hok hB hlen).mono fun e w' ⟨r, h1, h2, h3⟩ => by
    have : r = R := by rw [Bool.eq_iff_iff, h2, h]
    subst this
    exact ⟨h1, h3⟩

set_option maxHeartbeats 8000000 in
theorem specValidStore_say (b off cap : Nat) (ts : List Tm) (w : World) (h : TmsAt w b off ts) (hok : okTs ts) (hB : b < w.heap.size) (hn : ts.length ≤ 1048576) :
    Calls Tryz.prog 21 #[.agg #[.slice (some ⟨b, off, none⟩) ts.length cap]] w fun e w' => SayB (GoodS (tbs ts)) w e w' := by
  obtain ⟨W0, hW0⟩ : ∃ W0 : World, W0 = w.alloc (Obj.cells #[.slice (some ⟨b, off, none⟩) ts.length cap] 30) := ⟨_, rfl⟩
  have hb0 : Below w.heap.size w W0 := by rw [hW0]; exact (Below.refl _ _).alloc (Nat.le_refl _) _
  have hz0 : W0.heap.size = w.heap.size + 1 := by rw [hW0]; simp
  have HC : Hid (∀ wx, Below W0.heap.size W0 wx → wx.cell? ⟨w.heap.size, 0, none⟩ = some (.slice (some ⟨b, off, none⟩) ts.length cap)) := by
    intro wx hb
    rw [hb.cell (p := ⟨w.heap.size, 0, none⟩) (by show w.heap.size < W0.heap.size; omega), hW0]; simp
  have HT : Hid (TmsAt W0 b off ts ∧ okTs ts) := ⟨h.below hb0 hB, hok⟩
  have hB0 : b < W0.heap.size := by omega
  clear h hok
  by_cases h1 : ts.length = 0
  · have H : Hid (¬ GoodS (tbs ts)) := fun q => by have := q.ne; rw [tbs_len] at this; omega
    have z1 : (ts.length : Int) < 1 := by omega
    clear h1
    go_enter Tryz.func21, Tryz.ntmps21
    go_wp2_with fail
    go_ret
    rw [← hW0]
    exact ⟨_, rfl, iffF H.out, hb0⟩
  by_cases h2 : 100 < ts.length
  · have H : Hid (¬ GoodS (tbs ts)) := fun q => by have := q.le; rw [tbs_len] at this; omega
    have z1 : ¬ (ts.length : Int) < 1 := by omega
    have z2 : (100 : Int) < ts.length := by omega
    go_enter Tryz.func21, Tryz.ntmps21
    go_wp2_with fail
    go_ret
    rw [← hW0]
    exact ⟨_, rfl, iffF H.out, hb0⟩
  have z1 : ¬ (ts.length : Int) < 1 := by omega
  have z2 : ¬ (100 : Int) < ts.length := by omega
  obtain ⟨t0, ht0⟩ : ∃ t, ts[0]? = some t := ⟨_, List.getElem?_eq_getElem (by omega)⟩
  have c0 := HC.out W0 (Below.refl _ _)
  have d0 := (HT.out.1 0 t0 ht0).1
  rw [Nat.zero_mul, Nat.add_zero] at d0
  have H0 : Hid (ts[0]? = some t0) := ht0
  clear ht0
  cases he : t0.lo.toList.isEmpty
  · have H : Hid (¬ GoodS (tbs ts)) := fun q => by
      have := q.first t0.tb (by rw [tbs_get, H0.out]; rfl)
      have h3 : t0.lo.toList.isEmpty = true := size_empty.2 this
      rw [he] at h3
      cases h3
    go_enter Tryz.func21, Tryz.ntmps21
    go_upto_region 1 with fail
    rw [← hW0]
    clear hW0
    go_wp2_with fail
    go_ret
    exact ⟨_, rfl, iffF H.out, hb0⟩
  have HF : Hid (∀ t, ts[0]? = some t → t.lo.size = 0) := fun t ht => by
    rw [H0.out] at ht
    cases ht
    exact size_empty.1 he
  go_enter Tryz.func21, Tryz.ntmps21
  go_upto_region 1 with fail
  rw [← hW0]
  clear hW0
  go_wp2_with fail
  clear c0 d0 he
  go_loopw [4] (fun i wr => ∃ (k : Nat), k ≤ ts.length ∧ i = .int .i64 k ∧ (∀ j t, j < k → ts[j]? = some t → GoodT (tbs ts) j t.tb) ∧ Below W0.heap.size W0 wr) (fun i _ => ts.length - (intOf i).toNat)
  case atStart => exact ⟨0, Nat.zero_le _, rfl, fun j t hj => by omega, Below.refl _ _⟩
  case round =>
    obtain ⟨k, hk, rfl, hv, hb⟩ := hrel
    have HV : Hid (∀ j t, j < k → ts[j]? = some t → GoodT (tbs ts) j t.tb) := hv
    have hsz := hb.size
    have hbx := hb0.trans (hb.mono (by omega))
    clear hv
    by_cases hlt : k < ts.length
    · obtain ⟨t, ht⟩ : ∃ t, ts[k]? = some t := ⟨_, List.getElem?_eq_getElem hlt⟩
      obtain ⟨c0, c1, ha⟩ := (HT.out.1.below hb hB0) k t ht
      have HA : Hid (t.at wr ∧ ts[k]? = some t ∧ OkTm t) := ⟨ha, ht, HT.out.2 t (List.mem_of_getElem? ht)⟩
      have hrl : t.l.length ≤ 1048576 := HA.out.2.2.runs
      have hsl : t.lo.size ≤ maxLen := HA.out.2.2.lo
      unfold maxLen at hsl
      have cw := HC.out wr hb
      clear ha ht
      obtain ⟨W1, hW1⟩ : ∃ W1 : World, W1 = wr.alloc (Obj.cells #[.string t.lo, .slice (some ⟨t.b, t.off, none⟩) t.l.length t.cap] 56) := ⟨_, rfl⟩
      have hbA : Below wr.heap.size wr W1 := by rw [hW1]; exact (Below.refl _ _).alloc (Nat.le_refl _) _
      have hzA : W1.heap.size = wr.heap.size + 1 := by rw [hW1]; simp
      have hbz : Below W0.heap.size W0 W1 := hb.trans (hbA.mono hsz)
      have hbzx : Below w.heap.size w W1 := hb0.trans (hbz.mono (by omega))
      have HCA : Hid (∀ wx, Below W1.heap.size W1 wx → wx.cell? ⟨wr.heap.size, 0, none⟩ = some (.string t.lo) ∧ wx.cell? ⟨wr.heap.size, 1, none⟩ = some (.slice (some ⟨t.b, t.off, none⟩) t.l.length t.cap) ∧ wx.cell? ⟨w.heap.size, 0, none⟩ = some (.slice (some ⟨b, off, none⟩) ts.length cap) ∧ TmsAt wx b off ts ∧ b < wx.heap.size ∧ t.at wx) := by
        intro wx hx
        have sx := hx.size
        refine ⟨?_, ?_, HC.out wx (hbz.trans (hx.mono (by omega))), (HT.out.1.below hbz hB0).below hx (by omega), by omega, (HA.out.1.below hbA).below hx⟩
        · rw [hx.cell (p := ⟨wr.heap.size, 0, none⟩) (by show wr.heap.size < W1.heap.size; omega), hW1]; simp
        · rw [hx.cell (p := ⟨wr.heap.size, 1, none⟩) (by show wr.heap.size < W1.heap.size; omega), hW1]; simp
      have cR : ∀ n : Out W1, n.u.cell? ⟨wr.heap.size, 0, none⟩ = some (.string t.lo) := fun n => (HCA.out n.u n.out).1
      have cU : ∀ n : Out W1, n.u.cell? ⟨wr.heap.size, 1, none⟩ = some (.slice (some ⟨t.b, t.off, none⟩) t.l.length t.cap) := fun n => (HCA.out n.u n.out).2.1
      have cS : ∀ n : Out W1, n.u.cell? ⟨w.heap.size, 0, none⟩ = some (.slice (some ⟨b, off, none⟩) ts.length cap) := fun n => (HCA.out n.u n.out).2.2.1
      have inh : Nonempty (Out W1) := ⟨⟨W1, Below.refl _ _⟩⟩
      have zk : (k : Int) < (ts.length : Int) := by omega
      have hB1 : b < W1.heap.size := by omega
      obtain ⟨p, hp⟩ : ∃ p, (0 < k → ts[k - 1]? = some p) := by
        by_cases h0 : 0 < k
        · exact ⟨ts[k - 1]'(by omega), fun _ => List.getElem?_eq_getElem _⟩
        · exact ⟨t, fun q => absurd q h0⟩
      have p0 : 0 < k → ∀ n : Out W1, n.u.cell? ⟨b, off + (k - 1) * 2, none⟩ = some (.string p.lo) := fun q n => ((HCA.out n.u n.out).2.2.2.1 (k - 1) p (hp q)).1
      have HP : Hid (0 < k → ts[k - 1]? = some p) := hp
      clear hp
      obtain ⟨R, hR⟩ := bool_ex (GoodRs (esM t.l))
      have HR : Hid (R = true ↔ GoodRs (esM t.l)) := hR
      clear hR
      by_cases hl : 64 < t.lo.size
      · have H : Hid (¬ GoodS (tbs ts)) := fun q => by
          have h3 : t.lo.size ≤ 64 := (goodS_at q HA.out.2.1).size
          omega
        have hd : decide ((64 : Int) < (t.lo.size : Int)) = true := decide_eq_true (by omega)
        clear hl p0
        go_upto_region 8 with fail
        rw [← hW1]
        clear hW1
        refine wp_region_out (by kernel_rfl) (by kernel_rfl) ?_
        repeat (go_big_quiet_step (fail))
        refine wpQuiet_nil ?_
        rintro wz ⟨⟨wx', hbz'⟩, rfl⟩
        have hbw : Below w.heap.size w wz := hbzx.trans (hbz'.mono (by omega))
        go_wp2_with fail
        go_ret
        exact ⟨_, rfl, iffF H.out, hbw⟩
      have hd : decide ((64 : Int) < (t.lo.size : Int)) = false := decide_eq_false (by omega)
      have HL : Hid (¬ 64 < t.lo.size) := hl
      clear hl
      by_cases hk0 : k = 0
      · have hg : decide (0 < k) = false := decide_eq_false (by omega)
        have HK : Hid (k = 0) := hk0
        clear hk0 p0
        go_upto_region 8 with fail
        rw [← hW1]
        clear hW1
        refine wp_region_out (by kernel_rfl) (by kernel_rfl) ?_
        repeat (go_big_quiet_step ((go_at_call 49; exact Calls.out_of (goodRuns_det t.b t.off t.cap t.l _ (HCA.out _ (Out.out _)).2.2.2.2.2.rms HA.out.2.2.ents (HCA.out _ (Out.out _)).2.2.2.2.2.lt hrl R HR.out))))
        refine wpQuiet_nil ?_
        rintro wy ⟨⟨wx, hby⟩, rfl⟩
        have sy := hby.size
        have hbyx : Below w.heap.size w wy := hbzx.trans (hby.mono (by omega))
        have hbyz : Below W0.heap.size W0 wy := hbz.trans (hby.mono (by omega))
        clear cR cU cS
        cases R
        · have H : Hid (¬ GoodS (tbs ts)) := fun q => Bool.noConfusion (HR.out.2 (goodS_at q HA.out.2.1).runs)
          go_wp2_with fail
          go_ret
          exact ⟨_, rfl, iffF H.out, hbyx⟩
        have HG : Hid (GoodRs (esM t.l)) := HR.out.1 rfl
        go_wp2_with fail
        go_loopw [6] (fun i wr => ∃ (j : Nat), j ≤ t.l.length ∧ i = .int .i64 j ∧ (∀ r ∈ t.l.take j, r.es ≠ [] ∧ ∀ e ∈ r.es, inR t.lo (hasN (tbs ts) k) (hiN (tbs ts) k) e.row = true) ∧ Below W1.heap.size W1 wr) (fun i _ => t.l.length - (intOf i).toNat)
        case atStart => exact ⟨0, Nat.zero_le _, rfl, by simp, hby⟩
        case round =>
          obtain ⟨wr_1, hw1⟩ : ∃ v : World, v = wr := ⟨_, rfl⟩
          subst hw1
          obtain ⟨j, hj, rfl, hvj, hbj⟩ := hrel
          have HJ : Hid (∀ r ∈ t.l.take j, r.es ≠ [] ∧ ∀ e ∈ r.es, inR t.lo (hasN (tbs ts) k) (hiN (tbs ts) k) e.row = true) := hvj
          have sj := hbj.size
          have hbjx : Below w.heap.size w wr_1 := hbzx.trans (hbj.mono (by omega))
          have hbjz : Below W0.heap.size W0 wr_1 := hbz.trans (hbj.mono (by omega))
          clear hvj
          obtain ⟨e0, e1, e2, e3, e4, e5⟩ := HCA.out wr_1 hbj
          have HTm : Hid (t.at wr_1) := e5
          clear e3 e5
          by_cases hjl : j < t.l.length
          · obtain ⟨r, hr⟩ : ∃ r, t.l[j]? = some r := ⟨_, List.getElem?_eq_getElem hjl⟩
            obtain ⟨f0, fa⟩ := HTm.out.rms j r hr
            have HRr : Hid (r.at wr_1 ∧ t.l[j]? = some r ∧ GoodR r.es) := ⟨fa, hr, goodRs_mem HG.out (List.mem_of_getElem? hr)⟩
            have hrr : r.es.length ≤ 1048576 := by have := HRr.out.2.2.1.1; omega
            clear fa hr
            have zj : (j : Int) < (t.l.length : Int) := by omega
            by_cases hemp : r.es.length = 0
            · have H : Hid (¬ GoodS (tbs ts)) := fun q => (rowsIn_mem (goodS_at q HA.out.2.1).rows (List.mem_of_getElem? HRr.out.2.1)).1 (List.eq_nil_of_length_eq_zero hemp)
              have hd0 : ((r.es.length : Int) == 0) = true := by rw [hemp]; rfl
              clear hemp
              go_wp2_with fail
              go_ret
              exact ⟨_, rfl, iffF H.out, hbjx⟩
            have hd0 : ((r.es.length : Int) == 0) = false := beq_eq_false_iff_ne.2 (by omega)
            have HM : Hid (¬ r.es.length = 0) := hemp
            clear hemp
            go_wp2_with fail
            go_loopw [8] (fun i wr => ∃ (m : Nat), m ≤ r.es.length ∧ i = .int .i64 m ∧ (∀ e ∈ r.es.take m, inR t.lo (hasN (tbs ts) k) (hiN (tbs ts) k) e.row = true) ∧ Below wr_1.heap.size wr_1 wr) (fun i _ => r.es.length - (intOf i).toNat)
            case atStart => exact ⟨0, Nat.zero_le _, rfl, by simp, Below.refl _ _⟩
            case round =>
              obtain ⟨wr_2, hw2⟩ : ∃ v : World, v = wr := ⟨_, rfl⟩
              subst hw2
              obtain ⟨m, hm, rfl, hvm, hbm⟩ := hrel
              have HMm : Hid (∀ e ∈ r.es.take m, inR t.lo (hasN (tbs ts) k) (hiN (tbs ts) k) e.row = true) := hvm
              have sm := hbm.size
              have hbmx : Below w.heap.size w wr_2 := hbjx.trans (hbm.mono (by omega))
              have hbmj : Below W1.heap.size W1 wr_2 := hbj.trans (hbm.mono (by omega))
              clear hvm
              by_cases hml : m < r.es.length
              · obtain ⟨x, hx⟩ : ∃ x, r.es[m]? = some x := ⟨_, List.getElem?_eq_getElem hml⟩
                have q0 := (ents_out (HRr.out.1.ents.below hbm HRr.out.1.lt) (by have := HRr.out.1.lt; omega) hx).1
                have HXx : Hid (r.es[m]? = some x) := hx
                have qS : ∀ n : Out wr_2, n.u.cell? ⟨w.heap.size, 0, none⟩ = some (.slice (some ⟨b, off, none⟩) ts.length cap) := fun n => (HCA.out n.u (hbmj.trans (n.out.mono hbmj.size))).2.2.1
                have HY : Hid (∀ n : Out wr_2, TmsAt n.u b off ts ∧ b < n.u.heap.size) := fun n => ⟨(HCA.out n.u (hbmj.trans (n.out.mono hbmj.size))).2.2.2.1, (HCA.out n.u (hbmj.trans (n.out.mono hbmj.size))).2.2.2.2.1⟩
                clear hx
                have zm : (m : Int) < (r.es.length : Int) := by omega
                have inh2 : Nonempty (Out wr_2) := ⟨⟨wr_2, Below.refl _ _⟩⟩
                go_upto_region 19 with fail
                refine wp_region_out (by kernel_rfl) (by kernel_rfl) ?_
                repeat (go_big_quiet_step ((first
                  | (go_at_call 24; exact Calls.out_of (specRange_core b off cap ts k t _ (HY.out _).1 (HY.out _).2 HA.out.2.1 hn))
                  | (go_at_call 50; exact Calls.out_of (specInRange_core t.lo (hiN (tbs ts) k) x.row (hasN (tbs ts) k) _)))))
                refine wpQuiet_nil ?_
                rintro wz ⟨⟨wx', hbz'⟩, rfl⟩
                have hbw : Below w.heap.size w wz := hbmx.trans (hbz'.mono (by omega))
                have hbw2 : Below wr_1.heap.size wr_1 wz := hbm.trans (hbz'.mono (by omega))
                cases hin : inR t.lo (hasN (tbs ts) k) (hiN (tbs ts) k) x.row
                · have H : Hid (¬ GoodS (tbs ts)) := fun q => by
                    have h3 := (rowsIn_mem (goodS_at q HA.out.2.1).rows (List.mem_of_getElem? HRr.out.2.1)).2 x (List.mem_of_getElem? HXx.out)
                    have h4 : inR t.lo (hasN (tbs ts) k) (hiN (tbs ts) k) x.row = true := h3
                    rw [hin] at h4
                    cases h4
                  go_wp2_with fail
                  go_ret
                  exact ⟨_, rfl, iffF H.out, hbw⟩
                · have H : Hid (∀ e ∈ r.es.take (m + 1), inR t.lo (hasN (tbs ts) k) (hiN (tbs ts) k) e.row = true) := fun y hy => by
                    rcases mem_take_succ HXx.out hy with h | rfl
                    · exact HMm.out y h
                    · exact hin
                  go_wp2_with fail
                  go_roundw
                  case rel => exact ⟨m + 1, by omega, by go_num, H.out, hbw2⟩
                  case measure => go_light; simp [intOf]; omega
              · have zm : ¬ (m : Int) < (r.es.length : Int) := by omega
                have H : Hid (∀ x ∈ t.l.take (j + 1), x.es ≠ [] ∧ ∀ e ∈ x.es, inR t.lo (hasN (tbs ts) k) (hiN (tbs ts) k) e.row = true) := fun y hy => by
                  rcases mem_take_succ HRr.out.2.1 hy with h | rfl
                  · exact HJ.out y h
                  · refine ⟨fun q => HM.out (by rw [q]; rfl), fun e he => HMm.out e ?_⟩
                    rw [List.take_of_length_le (by omega)]; exact he
                go_wp2_with fail
                go_roundw
                case rel => exact ⟨j + 1, by omega, by go_num, H.out, hbmj⟩
                case measure => go_light; simp [intOf]; omega
          · have zj : ¬ (j : Int) < (t.l.length : Int) := by omega
            have H : Hid (∀ j t, j < k + 1 → ts[j]? = some t → GoodT (tbs ts) j t.tb) := fun i u hi hu => by
              by_cases hjk : i < k
              · exact HV.out i u hjk hu
              · have : i = k := by omega
                subst this
                rw [HA.out.2.1] at hu
                cases hu
                refine ⟨?_, fun q hq0 hq => ?_, HG.out, rowsIn_of (fun r hr => HJ.out r (by rw [List.take_of_length_le (by omega)]; exact hr))⟩
                · have := HL.out
                  show t.lo.size ≤ 64
                  omega
                · have := HK.out
                  omega
            go_wp2_with fail
            go_roundw
            case rel => exact ⟨k + 1, by omega, by go_num, H.out, hbjz⟩
            case measure => go_light; simp [intOf]; omega
      · have hg : decide (0 < k) = true := decide_eq_true (by omega)
        have em : (k : Int) - 1 = ((k - 1 : Nat) : Int) := by omega
        have p1 := p0 (by omega)
        clear p0
        cases hlo : Op.bytesLess p.lo.toList t.lo.toList
        · have hle : (Op.bytesLess t.lo.toList p.lo.toList || t.lo.toList == p.lo.toList) = true := by rw [le_less, hlo]; rfl
          have H : Hid (¬ GoodS (tbs ts)) := fun q => by
            have h3 := (goodS_at q HA.out.2.1).up p.tb (by omega) (by rw [tbs_get, HP.out (by omega)]; rfl)
            have h4 : Op.bytesLess p.lo.toList t.lo.toList = true := h3
            rw [hlo] at h4
            cases h4
          go_upto_region 8 with fail
          rw [← hW1]
          clear hW1
          refine wp_region_out (by kernel_rfl) (by kernel_rfl) ?_
          repeat (go_big_quiet_step ((go_at_call 49; exact Calls.out_of (goodRuns_det t.b t.off t.cap t.l _ (HCA.out _ (Out.out _)).2.2.2.2.2.rms HA.out.2.2.ents (HCA.out _ (Out.out _)).2.2.2.2.2.lt hrl R HR.out))))
          refine wpQuiet_nil ?_
          rintro wy ⟨⟨wx, hby⟩, rfl⟩
          have hbyx : Below w.heap.size w wy := hbzx.trans (hby.mono (by omega))
          go_wp2_with fail
          go_ret
          exact ⟨_, rfl, iffF H.out, hbyx⟩
        · have HLO : Hid (Op.bytesLess p.lo.toList t.lo.toList = true) := hlo
          have hle : (Op.bytesLess t.lo.toList p.lo.toList || t.lo.toList == p.lo.toList) = false := by rw [le_less, hlo]; rfl
          go_upto_region 8 with fail
          rw [← hW1]
          clear hW1
          refine wp_region_out (by kernel_rfl) (by kernel_rfl) ?_
          repeat (go_big_quiet_step ((go_at_call 49; exact Calls.out_of (goodRuns_det t.b t.off t.cap t.l _ (HCA.out _ (Out.out _)).2.2.2.2.2.rms HA.out.2.2.ents (HCA.out _ (Out.out _)).2.2.2.2.2.lt hrl R HR.out))))
          refine wpQuiet_nil ?_
          rintro wy ⟨⟨wx, hby⟩, rfl⟩
          have sy := hby.size
          have hbyx : Below w.heap.size w wy := hbzx.trans (hby.mono (by omega))
          have hbyz : Below W0.heap.size W0 wy := hbz.trans (hby.mono (by omega))
          clear cR cU cS p1
          cases R
          · have H : Hid (¬ GoodS (tbs ts)) := fun q => Bool.noConfusion (HR.out.2 (goodS_at q HA.out.2.1).runs)
            go_wp2_with fail
            go_ret
            exact ⟨_, rfl, iffF H.out, hbyx⟩
          have HG : Hid (GoodRs (esM t.l)) := HR.out.1 rfl
          go_wp2_with fail
          go_loopw [6] (fun i wr => ∃ (j : Nat), j ≤ t.l.length ∧ i = .int .i64 j ∧ (∀ r ∈ t.l.take j, r.es ≠ [] ∧ ∀ e ∈ r.es, inR t.lo (hasN (tbs ts) k) (hiN (tbs ts) k) e.row = true) ∧ Below W1.heap.size W1 wr) (fun i _ => t.l.length - (intOf i).toNat)
          case atStart => exact ⟨0, Nat.zero_le _, rfl, by simp, hby⟩
          case round =>
            obtain ⟨wr_1, hw1⟩ : ∃ v : World, v = wr := ⟨_, rfl⟩
            subst hw1
            obtain ⟨j, hj, rfl, hvj, hbj⟩ := hrel
            have HJ : Hid (∀ r ∈ t.l.take j, r.es ≠ [] ∧ ∀ e ∈ r.es, inR t.lo (hasN (tbs ts) k) (hiN (tbs ts) k) e.row = true) := hvj
            have sj := hbj.size
            have hbjx : Below w.heap.size w wr_1 := hbzx.trans (hbj.mono (by omega))
            have hbjz : Below W0.heap.size W0 wr_1 := hbz.trans (hbj.mono (by omega))
            clear hvj
            obtain ⟨e0, e1, e2, e3, e4, e5⟩ := HCA.out wr_1 hbj
            have HTm : Hid (t.at wr_1) := e5
            clear e3 e5
            by_cases hjl : j < t.l.length
            · obtain ⟨r, hr⟩ : ∃ r, t.l[j]? = some r := ⟨_, List.getElem?_eq_getElem hjl⟩
              obtain ⟨f0, fa⟩ := HTm.out.rms j r hr
              have HRr : Hid (r.at wr_1 ∧ t.l[j]? = some r ∧ GoodR r.es) := ⟨fa, hr, goodRs_mem HG.out (List.mem_of_getElem? hr)⟩
              have hrr : r.es.length ≤ 1048576 := by have := HRr.out.2.2.1.1; omega
              clear fa hr
              have zj : (j : Int) < (t.l.length : Int) := by omega
              by_cases hemp : r.es.length = 0
              · have H : Hid (¬ GoodS (tbs ts)) := fun q => (rowsIn_mem (goodS_at q HA.out.2.1).rows (List.mem_of_getElem? HRr.out.2.1)).1 (List.eq_nil_of_length_eq_zero hemp)
                have hd0 : ((r.es.length : Int) == 0) = true := by rw [hemp]; rfl
                clear hemp
                go_wp2_with fail
                go_ret
                exact ⟨_, rfl, iffF H.out, hbjx⟩
              have hd0 : ((r.es.length : Int) == 0) = false := beq_eq_false_iff_ne.2 (by omega)
              have HM : Hid (¬ r.es.length = 0) := hemp
              clear hemp
              go_wp2_with fail
              go_loopw [8] (fun i wr => ∃ (m : Nat), m ≤ r.es.length ∧ i = .int .i64 m ∧ (∀ e ∈ r.es.take m, inR t.lo (hasN (tbs ts) k) (hiN (tbs ts) k) e.row = true) ∧ Below wr_1.heap.size wr_1 wr) (fun i _ => r.es.length - (intOf i).toNat)
              case atStart => exact ⟨0, Nat.zero_le _, rfl, by simp, Below.refl _ _⟩
              case round =>
                obtain ⟨wr_2, hw2⟩ : ∃ v : World, v = wr := ⟨_, rfl⟩
                subst hw2
                obtain ⟨m, hm, rfl, hvm, hbm⟩ := hrel
                have HMm : Hid (∀ e ∈ r.es.take m, inR t.lo (hasN (tbs ts) k) (hiN (tbs ts) k) e.row = true) := hvm
                have sm := hbm.size
                have hbmx : Below w.heap.size w wr_2 := hbjx.trans (hbm.mono (by omega))
                have hbmj : Below W1.heap.size W1 wr_2 := hbj.trans (hbm.mono (by omega))
                clear hvm
                by_cases hml : m < r.es.length
                · obtain ⟨x, hx⟩ : ∃ x, r.es[m]? = some x := ⟨_, List.getElem?_eq_getElem hml⟩
                  have q0 := (ents_out (HRr.out.1.ents.below hbm HRr.out.1.lt) (by have := HRr.out.1.lt; omega) hx).1
                  have HXx : Hid (r.es[m]? = some x) := hx
                  have qS : ∀ n : Out wr_2, n.u.cell? ⟨w.heap.size, 0, none⟩ = some (.slice (some ⟨b, off, none⟩) ts.length cap) := fun n => (HCA.out n.u (hbmj.trans (n.out.mono hbmj.size))).2.2.1
                  have HY : Hid (∀ n : Out wr_2, TmsAt n.u b off ts ∧ b < n.u.heap.size) := fun n => ⟨(HCA.out n.u (hbmj.trans (n.out.mono hbmj.size))).2.2.2.1, (HCA.out n.u (hbmj.trans (n.out.mono hbmj.size))).2.2.2.2.1⟩
                  clear hx
                  have zm : (m : Int) < (r.es.length : Int) := by omega
                  have inh2 : Nonempty (Out wr_2) := ⟨⟨wr_2, Below.refl _ _⟩⟩
                  go_upto_region 19 with fail
                  refine wp_region_out (by kernel_rfl) (by kernel_rfl) ?_
                  repeat (go_big_quiet_step ((first
                    | (go_at_call 24; exact Calls.out_of (specRange_core b off cap ts k t _ (HY.out _).1 (HY.out _).2 HA.out.2.1 hn))
                    | (go_at_call 50; exact Calls.out_of (specInRange_core t.lo (hiN (tbs ts) k) x.row (hasN (tbs ts) k) _)))))
                  refine wpQuiet_nil ?_
                  rintro wz ⟨⟨wx', hbz'⟩, rfl⟩
                  have hbw : Below w.heap.size w wz := hbmx.trans (hbz'.mono (by omega))
                  have hbw2 : Below wr_1.heap.size wr_1 wz := hbm.trans (hbz'.mono (by omega))
                  cases hin : inR t.lo (hasN (tbs ts) k) (hiN (tbs ts) k) x.row
                  · have H : Hid (¬ GoodS (tbs ts)) := fun q => by
                      have h3 := (rowsIn_mem (goodS_at q HA.out.2.1).rows (List.mem_of_getElem? HRr.out.2.1)).2 x (List.mem_of_getElem? HXx.out)
                      have h4 : inR t.lo (hasN (tbs ts) k) (hiN (tbs ts) k) x.row = true := h3
                      rw [hin] at h4
                      cases h4
                    go_wp2_with fail
                    go_ret
                    exact ⟨_, rfl, iffF H.out, hbw⟩
                  · have H : Hid (∀ e ∈ r.es.take (m + 1), inR t.lo (hasN (tbs ts) k) (hiN (tbs ts) k) e.row = true) := fun y hy => by
                      rcases mem_take_succ HXx.out hy with h | rfl
                      · exact HMm.out y h
                      · exact hin
                    go_wp2_with fail
                    go_roundw
                    case rel => exact ⟨m + 1, by omega, by go_num, H.out, hbw2⟩
                    case measure => go_light; simp [intOf]; omega
                · have zm : ¬ (m : Int) < (r.es.length : Int) := by omega
                  have H : Hid (∀ x ∈ t.l.take (j + 1), x.es ≠ [] ∧ ∀ e ∈ x.es, inR t.lo (hasN (tbs ts) k) (hiN (tbs ts) k) e.row = true) := fun y hy => by
                    rcases mem_take_succ HRr.out.2.1 hy with h | rfl
                    · exact HJ.out y h
                    · refine ⟨fun q => HM.out (by rw [q]; rfl), fun e he => HMm.out e ?_⟩
                      rw [List.take_of_length_le (by omega)]; exact he
                  go_wp2_with fail
                  go_roundw
                  case rel => exact ⟨j + 1, by omega, by go_num, H.out, hbmj⟩
                  case measure => go_light; simp [intOf]; omega
            · have zj : ¬ (j : Int) < (t.l.length : Int) := by omega
              have H : Hid (∀ j t, j < k + 1 → ts[j]? = some t → GoodT (tbs ts) j t.tb) := fun i u hi hu => by
                by_cases hjk : i < k
                · exact HV.out i u hjk hu
                · have : i = k := by omega
                  subst this
                  rw [HA.out.2.1] at hu
                  cases hu
                  refine ⟨?_, fun q hq0 hq => ?_, HG.out, rowsIn_of (fun r hr => HJ.out r (by rw [List.take_of_length_le (by omega)]; exact hr))⟩
                  · have := HL.out
                    show t.lo.size ≤ 64
                    omega
                  · rw [tbs_get, HP.out (by omega)] at hq
                    cases hq
                    exact HLO.out
              go_wp2_with fail
              go_roundw
              case rel => exact ⟨k + 1, by omega, by go_num, H.out, hbjz⟩
              case measure => go_light; simp [intOf]; omega
    · have zk : ¬ (k : Int) < (ts.length : Int) := by omega
      have H : Hid (GoodS (tbs ts)) := goodS_of (by omega) (by omega) HF.out (fun i t ht => HV.out i t (by have := (List.getElem?_eq_some_iff.1 ht).1; omega) ht)
      go_wp2_with fail
      go_ret
      exact ⟨_, rfl, iffT H.out, hbx⟩
theorem specValidStore_core (b off cap : Nat) (ts : List Tm) (w : World) (h : TmsAt w b off ts) (hok : okTs ts) (hB : b < w.heap.size) (hn : ts.length ≤ 1048576) :
    Calls Tryz.prog 21 #[.agg #[.slice (some ⟨b, off, none⟩) ts.length cap]] w fun e w' =>
      ∃ r : Bool, e = .returned (.bool r) ∧ (r = true ↔ GoodS (tbs ts)) ∧ Below w.heap.size w w' := specValidStore_say b off cap ts w h hok hB hn
end Go.Proofs.YtlgeffinhbodeafGreat

/-
  spec.MergeStore.
-/
namespace Go.Proofs.YtlgeffinhbodeafGreat
open Go.ChangeShapes Go.WideShapes Go.ChangeAt Go.RowKit Go.Deep
set_option linter.unusedVariables false
set_option linter.unusedSimpArgs false
set_option maxRecDepth 100000

/-- A store of the call's own, laid into the result's variable. -/
theorem st_in {w w3 : World} {base R : Nat} {v : Value} {xs : List Tx} (hR : w.heap.size ≤ R) (hRl : R < base) (h : OwnSt w3 base v xs) (hb : Below w.heap.size w w3) :
    ∃ va vn vc, v = .slice va vn vc ∧ CpSPost w (xs.map Tx.tb) (.returned (.agg #[.slice va vn vc])) (w3.setCell ⟨R, 0, none⟩ (.slice va vn vc)) := by
  obtain ⟨va, vn, vc, rfl⟩ : ∃ va vn vc, v = .slice va vn vc := by
    rcases h.row with ⟨_, a, c, q⟩ | ⟨g, cp, q, _⟩ <;> exact ⟨_, _, _, q⟩
  refine ⟨va, vn, vc, rfl, _, xs, rfl, ?_, rfl, hb.setCell hR _⟩
  have h5 := h.chg (Chg.of_set w3 R 0 (.slice va vn vc) (S := fun k => k = R) rfl) (fun k hk _ q => by omega)
  exact h5.mono (by omega)
theorem trow_mono {w : World} {base base' : Nat} {v : Value} {ts : List Tx} (h : OwnTRow w base v ts) (hb : base' ≤ base) : OwnTRow w base' v ts := by
  rcases h with h | ⟨g, cp, hv, hO⟩
  · exact .inl h
  · exact .inr ⟨g, cp, hv, row_mono hO hb⟩
/-- A copied row of runs. -/
structure CopyO (w : World) (base : Nat) (v : Value) (rs : List Rw) (ess : List (List Ent)) : Prop where
  row : w.ownsRow base 58 1 v (rs.map Rw.u).length (rs.map Rw.u)
  ents : ∀ r ∈ rs, OwnK w base r
  same : rs.map Rw.es = ess
theorem CopyO.below {w w' : World} {base : Nat} {v : Value} {rs : List Rw} {ess : List (List Ent)} (h : CopyO w base v rs ess) (hb : Below w.heap.size w w') : CopyO w' base v rs ess :=
  ⟨row_below h.row hb, fun r hr => (h.ents r hr).below hb, h.same⟩
theorem CopyO.mono {w : World} {base base' : Nat} {v : Value} {rs : List Rw} {ess : List (List Ent)} (h : CopyO w base v rs ess) (hb : base' ≤ base) : CopyO w base' v rs ess :=
  ⟨row_mono h.row hb, fun r hr => (h.ents r hr).mono hb, h.same⟩
/-- Two of them, one behind the other. -/
theorem CopyO.cat {w w' : World} {base : Nat} {v v2 v' : Value} {rs rs2 : List Rw} {e1 e2 : List (List Ent)} (h : CopyO w base v rs e1) (h2 : CopyO w base v2 rs2 e2) (hA : AppR w w' base v v' (rs.map Rw.u) (rs2.map Rw.u)) : CopyO w' base v' (rs ++ rs2) (e1 ++ e2) := by
  have hkk : ∀ x : Rw, OwnK w base x → OwnK w' base x := fun x hx => by
    refine hx.kept hA.grown (fun k' hk' q => ?_)
    rcases hx with ⟨h0, _⟩ | ⟨g2, cp2, h1, _, hE⟩
    · rw [h0] at hk'; cases hk'
    · rw [h1] at hk'
      have e3 : g2 = k' := Option.some.inj hk'
      subst e3
      exact own_apart h.row hE (by decide) _ q rfl
  refine ⟨by rw [List.map_append]; exact hA.row, fun r hr => ?_, by rw [List.map_append, h.same, h2.same]⟩
  rcases List.mem_append.1 hr with q | q
  · exact hkk r (h.ents r q)
  · exact hkk r (h2.ents r q)
theorem CopyO.ts {w : World} {base : Nat} {v : Value} {rs : List Rw} {ess : List (List Ent)} (h : CopyO w base v rs ess) (lo : ByteArray) : OwnTs w base [⟨lo, v, rs⟩] := by
  refine ⟨fun t ht => ?_, fun t ht => ?_⟩
  all_goals
    simp at ht
    subst ht
  · exact OwnRow.of h.row rfl
  · exact h.ents
/-- What MergeStore of spec hands back. -/
def MgSPost (w : World) (tb : List Tb) (row : ByteArray) (e : Ending) (w' : World) : Prop := ∃ out, MrgT tb row out ∧ CpSPost w out e w'

end Go.Proofs.YtlgeffinhbodeafGreat

/-
  impl.MergeStore.
-/
namespace Go.Proofs.YtlgeffinhbodeafGreat
open Go.ChangeShapes Go.WideShapes Go.ChangeAt Go.RowKit Go.Deep
set_option linter.unusedVariables false
set_option linter.unusedSimpArgs false
set_option maxRecDepth 100000

theorem tms_ty (ts : List Tm) : (ts.map Tm.ty).map Ty.tb = tbs ts := by
  unfold tbs
  rw [List.map_map]
  apply List.map_congr_left
  intro t _
  rfl
/-- Copied as it is, into the result's variable. -/
theorem copy_in {w w3 : World} {tb : List Tb} {e : Ending} {W : World} (R : Nat) (hb : Below w.heap.size w W) (hR : w.heap.size ≤ R) (hRl : R < W.heap.size) (h : CpIPost W tb e w3) :
    ∃ (g cp : Nat) (xs : List Tx), e = .returned (.agg #[.slice (some ⟨g, 0, none⟩) xs.length cp]) ∧ Below W.heap.size W w3 ∧ CpIPost w tb (.returned (.agg #[.slice (some ⟨g, 0, none⟩) xs.length cp])) (w3.setCell ⟨R, 0, none⟩ (.slice (some ⟨g, 0, none⟩) xs.length cp)) := by
  obtain ⟨g, cp, xs, rfl, hS, hA, hE, hb3⟩ := h
  refine ⟨g, cp, xs, rfl, hb3, g, cp, xs, rfl, ?_, hA, hE, (hb.trans (hb3.mono hb.size)).setCell hR _⟩
  have h5 := hS.chg (Chg.of_set w3 R 0 (.slice (some ⟨g, 0, none⟩) xs.length cp) (S := fun k => k = R) rfl) (fun k hk _ q => by omega)
  exact h5.mono hb.size

theorem inRms_cat {w : World} {base : Nat} {v : Value} {l : List Rm} (h : w.ownsRow base 58 1 v l.length (l.map Rm.u)) (hr : ∀ r ∈ l, r.at w) : InRms w v l := by
  rcases h.2 with ⟨q, q2⟩ | ⟨g, cp, cur, q, q2, q3, hc1, hc2, _⟩
  · exact .inl ⟨none, 0, q, List.eq_nil_of_length_eq_zero q2⟩
  · subst q
    refine .inr ⟨g, 0, cp, rfl, fun i r hi => ⟨?_, hr r (List.mem_of_getElem? hi)⟩, (World.ownsRow.lt h g rfl).2, hc1, hc2⟩
    have hl := (List.getElem?_eq_some_iff.1 hi).1
    have := World.ownsRow.cellAt h i (by omega)
    rw [List.getElem?_map, hi] at this
    rw [Nat.zero_add]
    exact this

theorem inRms_set {w : World} {va : Option Addr} {vn vc : Nat} {l : List Rm} {R o : Nat} {x : Value} (h : InRms w (.slice va vn vc) l) (hv : ∀ g, va = some g → g.block ≠ R ∨ l = []) (hl : ∀ r ∈ l, r.b ≠ R) : InRms (w.setCell ⟨R, o, none⟩ x) (.slice va vn vc) l := by
  rcases h with ⟨a, c, hq, rfl⟩ | ⟨b, off, cap, hq, hE, hlt, h1, h2⟩
  · exact .inl ⟨a, c, hq, rfl⟩
  · by_cases hn : l = []
    · subst hn
      exact .inl ⟨_, _, hq, rfl⟩
    · cases hq
      refine .inr ⟨b, off, vc, rfl, fun i r hi => ?_, by simpa using hlt, h1, h2⟩
      have hb : b ≠ R := (hv _ rfl).resolve_right hn
      have hr := hl r (List.mem_of_getElem? hi)
      obtain ⟨k1, k2⟩ := hE i r hi
      refine ⟨by rw [World.cell?_setCell_far _ _ _ _ (by exact fun q => hb q.symm)]; exact k1, ⟨fun j e he => ?_, by simpa using k2.lt, k2.len, k2.cap⟩⟩
      obtain ⟨q0, q1, q2, q3, q4, q5⟩ := k2.ents j e he
      refine ⟨?_, ?_, ?_, ?_, ?_, ?_⟩
      all_goals rw [World.cell?_setCell_far _ _ _ _ (by exact fun q => hr q.symm)]
      · exact q0
      · exact q1
      · exact q2
      · exact q3
      · exact q4
      · exact q5
/-- What MergeStore of impl hands back. -/
def MgIPost (w : World) (tb : List Tb) (row : ByteArray) (e : Ending) (w' : World) : Prop := ∃ out, MrgT tb row out ∧ CpIPost w out e w'

end Go.Proofs.YtlgeffinhbodeafGreat

