/-
  impl's copied.
-/
import Derived.Test.YtlgeffinhbodeaeQCpS
namespace Go.Proofs.Ytlgeffinhbodeae
open Go.ChangeShapes Go.WideShapes Go.ChangeAt Go.RowKit Go.Deep
set_option linter.unusedVariables false
set_option linter.unusedSimpArgs false
set_option maxRecDepth 100000

/-- A tablet as a copy reads it: its runs may be nil. -/
structure Ty where
  lo : ByteArray
  v : Value
  l : List Rm
def Ty.tb (t : Ty) : Tb := ⟨t.lo, esM t.l⟩
def TysAt (w : World) (b off : Nat) (ts : List Ty) : Prop := ∀ i t, ts[i]? = some t → w.cell? ⟨b, off + i * 2, none⟩ = some (.string t.lo) ∧ w.cell? ⟨b, off + i * 2 + 1, none⟩ = some t.v ∧ InRms w t.v t.l
theorem TysAt.below {w w' : World} {b off : Nat} {ts : List Ty} (h : TysAt w b off ts) (hb : Below w.heap.size w w') (hlt : b < w.heap.size) : TysAt w' b off ts := by
  intro i t ht
  obtain ⟨h1, h2, h3⟩ := h i t ht
  exact ⟨by rw [hb.cell (p := ⟨b, off + i * 2, none⟩) (by exact hlt)]; exact h1, by rw [hb.cell (p := ⟨b, off + i * 2 + 1, none⟩) (by exact hlt)]; exact h2, h3.below hb⟩
def Tm.ty (t : Tm) : Ty := ⟨t.lo, t.u, t.l⟩
theorem TmsAt.tys {w : World} {b off : Nat} {ts : List Tm} (h : TmsAt w b off ts) : TysAt w b off (ts.map Tm.ty) := by
  intro i t ht
  rw [List.getElem?_map] at ht
  cases hp : ts[i]? with
  | none => rw [hp] at ht; cases ht
  | some p =>
    rw [hp] at ht
    simp at ht
    subst ht
    obtain ⟨h1, h2, h3⟩ := h i p hp
    exact ⟨h1, h2, h3.ins⟩
theorem apartT_snoc {xs : List Tx} {t : Tx} {n : Nat} (h : ApartT xs) (h1 : ∀ x ∈ xs, ∀ r ∈ x.rs, ∀ k, r.k = some k → k < n) (h2 : ∀ r ∈ t.rs, ∀ k, r.k = some k → n ≤ k) (h3 : Apart t.rs) : ApartT (xs ++ [t]) := by
  unfold ApartT
  rw [List.flatMap_append]
  refine List.pairwise_append.2 ⟨h, (by simp only [List.flatMap_cons, List.flatMap_nil, List.append_nil]; exact h3), fun a ha b hb k hk hk' => ?_⟩
  obtain ⟨x, hx, hr⟩ := List.mem_flatMap.1 ha
  simp at hb
  have q1 := h1 x hx a hr k hk
  have q2 := h2 b hb k hk'
  omega
/-- What impl's copy of a store hands back. -/
def CpIPost (w : World) (tbs : List Tb) (e : Ending) (w' : World) : Prop := ∃ (g cp : Nat) (xs : List Tx), e = .returned (.agg #[.slice (some ⟨g, 0, none⟩) xs.length cp]) ∧ OwnSt w' w.heap.size (.slice (some ⟨g, 0, none⟩) xs.length cp) xs ∧ ApartT xs ∧ xs.map Tx.tb = tbs ∧ Below w.heap.size w w'

set_option maxHeartbeats 8000000 in
theorem implCopied_core (b off cap : Nat) (ts : List Ty) (w : World) (h : TysAt w b off ts) (hB : b < w.heap.size) (hn : ts.length ≤ 1048576) (hs : ∀ t ∈ ts, t.l.length ≤ 1048576 ∧ totM t.l ≤ 1048576) :
    Calls Try.prog 79 #[.agg #[.slice (some ⟨b, off, none⟩) ts.length cap]] w fun e w' => CpIPost w (ts.map Ty.tb) e w' := by
  obtain ⟨iT, hiT, hzT0, hzT1, hzT2⟩ := info_parts Try.infoTab
  have HIT : Hid (Try.prog.info? 133 = some iT ∧ iT.zero = some (.agg #[.string ⟨#[]⟩, .slice none 0 0]) ∧ iT.size = 2 ∧ iT.bytes = 40) := ⟨hiT, hzT0, hzT1, hzT2⟩
  obtain ⟨iR, hiR, hzR0, hzR1, hzR2⟩ := info_parts Try.infoRun
  have HIR : Hid (Try.prog.info? 30 = some iR ∧ iR.zero = some (.agg #[.slice none 0 0]) ∧ iR.size = 1 ∧ iR.bytes = 24) := ⟨hiR, hzR0, hzR1, hzR2⟩
  clear hiT hzT0 hzT1 hzT2 hiR hzR0 hzR1 hzR2
  obtain ⟨Wa, hWa⟩ : ∃ Wa : World, Wa = (w.alloc (Obj.cells #[.slice (some ⟨b, off, none⟩) ts.length cap] 66)).alloc (Obj.cells #[.slice none 0 0] 66) := ⟨_, rfl⟩
  have hba : Below w.heap.size w Wa := by rw [hWa]; exact ((Below.refl _ _).alloc (Nat.le_refl _) _).alloc (by simp) _
  have hza : Wa.heap.size = w.heap.size + 1 + 1 := by rw [hWa]; simp
  have HWa : Hid (∀ wx, Below Wa.heap.size Wa wx → wx.cell? ⟨w.heap.size, 0, none⟩ = some (.slice (some ⟨b, off, none⟩) ts.length cap) ∧ wx.cell? ⟨w.heap.size + 1, 0, none⟩ = some (.slice none 0 0) ∧ wx.frozen? ⟨w.heap.size + 1, 0, none⟩ = false ∧ TysAt wx b off ts ∧ b < wx.heap.size) := by
    intro wx hx
    have sx := hx.size
    refine ⟨?_, ?_, ?_, (h.below hba hB).below hx (by omega), by omega⟩
    · rw [hx.cell (p := ⟨w.heap.size, 0, none⟩) (by show w.heap.size < Wa.heap.size; omega), hWa]; simp [go_sem]
    · rw [hx.cell (p := ⟨w.heap.size + 1, 0, none⟩) (by show w.heap.size + 1 < Wa.heap.size; omega), hWa]; simp [go_sem]
    · rw [hx.frozen (p := ⟨w.heap.size + 1, 0, none⟩) (by show w.heap.size + 1 < Wa.heap.size; omega), hWa]; simp [go_sem]
  have HS : Hid (∀ t ∈ ts, t.l.length ≤ 1048576 ∧ totM t.l ≤ 1048576) := hs
  clear h hs
  obtain ⟨c0, _⟩ := HWa.out Wa (Below.refl _ _)
  go_enter Try.func79, Try.ntmps79
  go_upto_region 1 with fail
  rw [← hWa]
  clear hWa
  go_wp2_with (at_make; refine wpList_make_own _ rfl _ _ 64 rfl Wa.heap.size 133 iT _ 2 Try.underlying64 HIT.out.1 HIT.out.2.1 HIT.out.2.2.1 _ _ _ ts.length rfl rfl rfl ?hb ?hm ?hs ?_)
  case hb => rw [HIT.out.2.2.2]; omega
  case hm => unfold maxLen; omega
  case hs => exact Nat.le_refl _
  intro w1 hown hgrow
  have HW1 : Hid (w1.ownsRow (w.heap.size + 1 + 1) 133 2 (.slice (some ⟨w.heap.size + 1 + 1, 0, none⟩) 0 ts.length) 0 []) := hown
  have hb1 : Below Wa.heap.size Wa w1 := (Below.refl _ _).grown hgrow (Nat.le_refl _) (fun k hk => by cases hk)
  clear hown hgrow c0
  obtain ⟨c0, _⟩ := HWa.out w1 hb1
  go_wp2_with fail
  clear c0
  go_loopw [3, 16] (fun o i wr => ∃ (k g cp : Nat) (xs : List Tx), k ≤ ts.length ∧ i = .int .i64 k ∧ o = .slice (some ⟨g, 0, none⟩) k cp ∧ xs.length = k ∧ xs.map Tx.tb = (ts.take k).map Ty.tb ∧ wr.ownsRow Wa.heap.size 133 2 (.slice (some ⟨g, 0, none⟩) k cp) k (cellsP (xs.map Tx.pr)) ∧ OwnTs wr Wa.heap.size xs ∧ ApartT xs ∧ Below Wa.heap.size Wa wr) (fun _ i _ => ts.length - (intOf i).toNat)
  case atStart => exact ⟨0, w.heap.size + 1 + 1, ts.length, [], Nat.zero_le _, rfl, rfl, rfl, rfl, (by rw [hza]; exact HW1.out), ⟨fun t ht => by simp at ht, fun t ht => by simp at ht⟩, List.Pairwise.nil, hb1⟩
  case round =>
    obtain ⟨wo, hwo⟩ : ∃ v : World, v = wr := ⟨_, rfl⟩
    subst hwo
    obtain ⟨k, g, cp, xs, hk, rfl, rfl, hxl, hxt, hrow, hts, hap, hb⟩ := hrel
    have HR : Hid (xs.length = k ∧ xs.map Tx.tb = (ts.take k).map Ty.tb ∧ wo.ownsRow Wa.heap.size 133 2 (.slice (some ⟨g, 0, none⟩) k cp) k (cellsP (xs.map Tx.pr)) ∧ OwnTs wo Wa.heap.size xs ∧ ApartT xs) := ⟨hxl, hxt, hrow, hts, hap⟩
    have hg := World.ownsRow.lt hrow g rfl
    have hso := hb.size
    clear hxl hxt hrow hts hap
    by_cases hlt : k < ts.length
    · obtain ⟨t, ht⟩ : ∃ t, ts[k]? = some t := ⟨_, List.getElem?_eq_getElem hlt⟩
      obtain ⟨_, _, _, d3, d4⟩ := HWa.out wo hb
      obtain ⟨e0, e1, hin⟩ := d3 k t ht
      obtain ⟨lo, tv, l⟩ := t
      simp only at e0 e1 hin
      obtain ⟨ad, vc, rfl, hcell⟩ := hin.shape
      have hl2 := HS.out _ (List.mem_of_getElem? ht)
      simp only at hl2
      have hll : l.length ≤ 1048576 := hl2.1
      have HD : Hid (ts[k]? = some ⟨lo, .slice ad l.length vc, l⟩ ∧ totM l ≤ 1048576 ∧ (∀ (i : Nat) (r : Rm), l[i]? = some r → ∃ b off, ad = some ⟨b, off, none⟩ ∧ b < wo.heap.size ∧ RmsAt wo b off l)) := ⟨ht, hl2.2, hcell⟩
      clear d3 ht hin hl2 hcell
      have zk : (k : Int) < (ts.length : Int) := by omega
      obtain ⟨W1, hW1⟩ : ∃ W1 : World, W1 = wo.alloc (Obj.cells #[.string lo, .slice ad l.length vc] 133) := ⟨_, rfl⟩
      have hbA : Below wo.heap.size wo W1 := by rw [hW1]; exact (Below.refl _ _).alloc (Nat.le_refl _) _
      have hzA : W1.heap.size = wo.heap.size + 1 := by rw [hW1]; simp
      have HC1 : Hid (∀ wx, Below W1.heap.size W1 wx → wx.cell? ⟨wo.heap.size, 0, none⟩ = some (.string lo) ∧ wx.cell? ⟨wo.heap.size, 1, none⟩ = some (.slice ad l.length vc)) := by
        intro wx hx
        constructor
        · rw [hx.cell (p := ⟨wo.heap.size, 0, none⟩) (by show wo.heap.size < W1.heap.size; omega), hW1]; simp
        · rw [hx.cell (p := ⟨wo.heap.size, 1, none⟩) (by show wo.heap.size < W1.heap.size; omega), hW1]; simp
      obtain ⟨n0, n1⟩ := HC1.out W1 (Below.refl _ _)
      go_upto_region 5 with fail
      rw [← hW1]
      clear hW1
      go_wp2_with (at_make; refine wpList_make_own _ rfl _ _ 23 rfl (wo.heap.size + 1) 30 iR _ 1 Try.underlying23 HIR.out.1 HIR.out.2.1 HIR.out.2.2.1 _ _ _ l.length rfl rfl rfl ?hb ?hm ?hs ?_)
      case hb => rw [HIR.out.2.2.2]; omega
      case hm => unfold maxLen; omega
      case hs => omega
      intro w2 hown hgrow
      have hb2 : Below W1.heap.size W1 w2 := (Below.refl _ _).grown hgrow (Nat.le_refl _) (fun k hk => by cases hk)
      have HW2 : Hid (w2.ownsRow (wo.heap.size + 1) 30 1 (.slice (some ⟨wo.heap.size + 1, 0, none⟩) 0 l.length) 0 []) := hown
      clear hgrow n0 n1 hown
      obtain ⟨n0, n1⟩ := HC1.out w2 hb2
      go_wp2_with fail
      clear n0 n1 e0 e1
      go_loopw [6, 27] (fun o i wr => ∃ (j g6 cp6 : Nat) (rs : List Rw), j ≤ l.length ∧ i = .int .i64 j ∧ o = .slice (some ⟨g6, 0, none⟩) j cp6 ∧ rs.length = j ∧ rs.map Rw.es = esM (l.take j) ∧ wr.ownsRow (wo.heap.size + 1) 30 1 (.slice (some ⟨g6, 0, none⟩) j cp6) j (rs.map Rw.u) ∧ (∀ r ∈ rs, OwnK wr (wo.heap.size + 1) r) ∧ Apart rs ∧ Below W1.heap.size W1 wr) (fun _ i _ => l.length - (intOf i).toNat)
      case atStart => exact ⟨0, wo.heap.size + 1, l.length, [], Nat.zero_le _, rfl, rfl, rfl, rfl, HW2.out, fun r hr => by simp at hr, List.Pairwise.nil, hb2⟩
      case round =>
        obtain ⟨wi, hwi⟩ : ∃ v : World, v = wr := ⟨_, rfl⟩
        subst hwi
        obtain ⟨j, g6, cp6, rs, hj, rfl, rfl, hrl, hes, hrow, hks, hap, hbi⟩ := hrel
        have HRi : Hid (rs.length = j ∧ rs.map Rw.es = esM (l.take j) ∧ wi.ownsRow (wo.heap.size + 1) 30 1 (.slice (some ⟨g6, 0, none⟩) j cp6) j (rs.map Rw.u) ∧ (∀ r ∈ rs, OwnK wi (wo.heap.size + 1) r) ∧ Apart rs) := ⟨hrl, hes, hrow, hks, hap⟩
        have hg6 := World.ownsRow.lt hrow g6 rfl
        have hsi := hbi.size
        clear hrl hes hrow hks hap
        by_cases hjl : j < l.length
        · obtain ⟨r, hr⟩ : ∃ r, l[j]? = some r := ⟨_, List.getElem?_eq_getElem hjl⟩
          obtain ⟨b', off', rfl, hB', hat⟩ := HD.out.2.2 j r hr
          have hbw : Below wo.heap.size wo wi := hbA.trans (hbi.mono (by omega))
          obtain ⟨m0, ha⟩ := (hat.below hbw hB') j r hr
          have hrt : r.es.length ≤ 1048576 := by have := totM_mem (List.mem_of_getElem? hr); have := HD.out.2.1; omega
          have HRr : Hid (l[j]? = some r ∧ r.at wi) := ⟨hr, ha⟩
          clear hr ha hat
          have zj : (j : Int) < (l.length : Int) := by omega
          obtain ⟨W3, hW3⟩ : ∃ W3 : World, W3 = wi.alloc (Obj.cells #[.slice (some ⟨r.b, r.off, none⟩) r.es.length r.cap] 30) := ⟨_, rfl⟩
          have hb3 : Below wi.heap.size wi W3 := by rw [hW3]; exact (Below.refl _ _).alloc (Nat.le_refl _) _
          have hz3 : W3.heap.size = wi.heap.size + 1 := by rw [hW3]; simp
          have p0 : W3.cell? ⟨wi.heap.size, 0, none⟩ = some (.slice (some ⟨r.b, r.off, none⟩) r.es.length r.cap) := by rw [hW3]; simp
          go_upto_region 9 with fail
          rw [← hW3]
          clear hW3
          go_wp2_with fail
          refine (clone_core r _ (HRr.out.2.below hb3) hrt).mono ?_
          rintro e w4 ⟨g4, cp4, rfl, hO4, hb4⟩
          have HO4 : Hid (OwnE w4 W3.heap.size g4 cp4 r.es) := hO4
          have hb34 : Below wi.heap.size wi w4 := hb3.trans (hb4.mono (by omega))
          have s4 := hb34.size
          have hus : (rs.map Rw.u).length = j := by rw [List.length_map]; exact HRi.out.1
          have HR4 : Hid ((w4.alloc (Obj.cells #[.slice (some ⟨g4, 0, none⟩) r.es.length cp4] 30)).ownsRow (wo.heap.size + 1) 30 1 (.slice (some ⟨g6, 0, none⟩) j cp6) (rs.map Rw.u).length (rs.map Rw.u)) := by
            show World.ownsRow _ _ _ _ _ _ _
            rw [hus]
            exact World.ownsRow.alloc (row_below HRi.out.2.2.1 hb34) _
          clear hO4 p0 m0
          go_wp2_with (at_builtin; refine wpList_append_runO _ rfl _ _ rfl (wo.heap.size + 1) (.slice (some ⟨g6, 0, none⟩) j cp6) (rs.map Rw.u) w4.heap.size 0 1 1 [.slice (some ⟨g4, 0, none⟩) r.es.length cp4] rfl rfl rfl HR4.out one_cell_new ?h1 ?hl ?hb ?_)
          case h1 => intro u hu; simp at hu; subst hu; rfl
          case hl => rw [hus]; simp; omega
          case hb => simp; omega
          intro v' w5 hA5
          have hz : (rs.map Rw.u ++ [Value.slice (some ⟨g4, 0, none⟩) r.es.length cp4]).length = j + 1 := by simp [hus]
          obtain ⟨g5, cp5, rfl⟩ := hA5.form (by intro q; cases q)
          have hO5 := hA5.row
          rw [hz] at hO5 ⊢
          have hgr5 := hA5.grown
          clear hA5
          have HN : Hid (∃ rs' : List Rw, rs'.length = j + 1 ∧ rs'.map Rw.es = esM (l.take (j + 1)) ∧ w5.ownsRow (wo.heap.size + 1) 30 1 (.slice (some ⟨g5, 0, none⟩) (j + 1) cp5) (j + 1) (rs'.map Rw.u) ∧ (∀ r ∈ rs', OwnK w5 (wo.heap.size + 1) r) ∧ Apart rs') := by
            obtain ⟨q1, q2, q3, q4, q5⟩ := HRi.out
            have hbz : Below w4.heap.size w4 (w4.alloc (Obj.cells #[.slice (some ⟨g4, 0, none⟩) r.es.length cp4] 30)) := (Below.refl _ _).alloc (Nat.le_refl _) _
            have hkk : ∀ x : Rw, OwnK w4 (wo.heap.size + 1) x → OwnK w5 (wo.heap.size + 1) x := fun x hx => by
              refine (hx.below hbz).kept hgr5 (fun k' hk' q => ?_)
              have hq : g6 = k' := Option.some.inj q
              subst hq
              rcases hx with ⟨h0, _⟩ | ⟨g2, cp2, h1, h2, hE⟩
              · rw [h0] at hk'; cases hk'
              · rw [h1] at hk'
                have e2 : g2 = g6 := Option.some.inj hk'
                subst e2
                exact own_apart (row_below q3 hb34) hE (by decide) _ rfl rfl
            refine ⟨rs ++ [⟨.slice (some ⟨g4, 0, none⟩) r.es.length cp4, r.es, some g4⟩], by simp [q1], ?_, ?_, ?_, ?_⟩
            · rw [List.map_append, q2, List.take_add_one, HRr.out.1]; simp [esM]
            · rw [List.map_append]
              exact hO5
            · intro x hx
              rcases List.mem_append.1 hx with hx | hx
              · exact hkk x ((q4 x hx).below hb34)
              · simp at hx
                subst hx
                exact hkk _ ((OwnK.mono (.inr ⟨g4, cp4, rfl, rfl, HO4.out⟩) (by omega)))
            · refine apart_snoc (n := wi.heap.size) q5 (fun x hx k' hk' => ((q4 x hx).key hk').2) (fun k' hk' => ?_)
              have e2 : g4 = k' := Option.some.inj hk'
              subst e2
              have := HO4.out.lt.1
              omega
          have hb5 : Below W1.heap.size W1 w5 := ((hbi.trans (hb34.mono hsi)).alloc (by omega) _).grown hgr5 (by simp; omega) (fun q hq => by have e : g6 = q := Option.some.inj hq; have := hg6.1; omega)
          clear hO5 hgr5 hus hz
          go_wp2_with fail
          go_roundw
          case rel =>
            go_light
            obtain ⟨rs', a1, a2, a3, a4, a5⟩ := HN.out
            exact ⟨j + 1, g5, cp5, rs', by omega, by go_num, rfl, a1, a2, a3, a4, a5, hb5⟩
          case measure => go_light; simp [intOf]; omega
        · have zj : ¬ (j : Int) < (l.length : Int) := by omega
          obtain ⟨n0, n1⟩ := HC1.out wi hbi
          have hbw : Below wo.heap.size wo wi := hbA.trans (hbi.mono (by omega))
          have s4 := hbw.size
          have hus : (xs.map Tx.pr).length = k := by rw [List.length_map]; exact HR.out.1
          have HR4 : Hid ((wi.alloc (Obj.cells #[.string lo, .slice (some ⟨g6, 0, none⟩) j cp6] 133)).ownsRow Wa.heap.size 133 2 (.slice (some ⟨g, 0, none⟩) k cp) (xs.map Tx.pr).length (cellsP (xs.map Tx.pr))) := by
            show World.ownsRow _ _ _ _ _ _ _
            rw [hus]
            exact World.ownsRow.alloc (row_below HR.out.2.2.1 hbw) _
          go_wp2_with (at_builtin; refine wpList_append_tabO _ rfl _ _ rfl Wa.heap.size (.slice (some ⟨g, 0, none⟩) k cp) (xs.map Tx.pr) wi.heap.size 0 1 1 [(lo, .slice (some ⟨g6, 0, none⟩) j cp6)] rfl rfl rfl HR4.out two_cells_new ?h1 ?hl ?hb ?_)
          case h1 => first | rfl | (intro p hp; simp at hp; subst hp; rfl)
          case hl => first | omega | (rw [hus]; simp; omega)
          case hb => first | omega | (simp; omega)
          intro v' w5 hA5
          have hz : (xs.map Tx.pr ++ [(lo, Value.slice (some ⟨g6, 0, none⟩) j cp6)]).length = k + 1 := by simp [hus]
          obtain ⟨g5, cp5, rfl⟩ := hA5.form (.inr (by simp))
          have HA5 : Hid (AppT (wi.alloc (Obj.cells #[.string lo, .slice (some ⟨g6, 0, none⟩) j cp6] 133)) w5 (w.heap.size + 1 + 1) (.slice (some ⟨g, 0, none⟩) k cp) (.slice (some ⟨g5, 0, none⟩) (xs.map Tx.pr ++ [(lo, Value.slice (some ⟨g6, 0, none⟩) j cp6)]).length cp5) (xs.map Tx.pr) [(lo, .slice (some ⟨g6, 0, none⟩) j cp6)]) := hA5
          rw [hz] at HA5 ⊢
          clear hA5
          have HN : Hid (∃ xs' : List Tx, xs'.length = k + 1 ∧ xs'.map Tx.tb = (ts.take (k + 1)).map Ty.tb ∧ w5.ownsRow Wa.heap.size 133 2 (.slice (some ⟨g5, 0, none⟩) (k + 1) cp5) (k + 1) (cellsP (xs'.map Tx.pr)) ∧ OwnTs w5 Wa.heap.size xs' ∧ ApartT xs') := by
            obtain ⟨q1, q2, q3, q4, q5⟩ := HR.out
            obtain ⟨r1, r2, r3, r4, r5⟩ := HRi.out
            rw [List.take_of_length_le (by omega)] at r2
            have hA := HA5.out
            rw [← hza] at hA
            have hbz : Below wi.heap.size wi (wi.alloc (Obj.cells #[.string lo, .slice (some ⟨g6, 0, none⟩) j cp6] 133)) := (Below.refl _ _).alloc (Nat.le_refl _) _
            have hrow1 := World.ownsRow.alloc (row_below q3 hbw) (Obj.cells #[.string lo, .slice (some ⟨g6, 0, none⟩) j cp6] 133)
            have hro : OwnRow wi (wo.heap.size + 1) (.slice (some ⟨g6, 0, none⟩) j cp6) rs := OwnRow.of (us := rs.map Rw.u) (by rw [List.length_map, r1]; exact r3) rfl
            have ht1 : OwnTs wi Wa.heap.size (xs ++ [⟨lo, .slice (some ⟨g6, 0, none⟩) j cp6, rs⟩]) := (q4.below hbw).snoc (hro.mono (by omega)) (fun r hr => (r4 r hr).mono (by omega))
            have ht2 : OwnTs w5 Wa.heap.size (xs ++ [⟨lo, .slice (some ⟨g6, 0, none⟩) j cp6, rs⟩]) := (ht1.below hbz).grown hrow1 hA.grown
            refine ⟨xs ++ [⟨lo, .slice (some ⟨g6, 0, none⟩) j cp6, rs⟩], by simp [q1], ?_, ?_, ht2, ?_⟩
            · rw [List.take_add_one, HD.out.1, List.map_append, List.map_append, q2]
              simp [Tx.tb, Ty.tb, r2]
            · have h5 := hA.row
              rw [hz] at h5
              rw [List.map_append]
              exact h5
            · refine apartT_snoc (n := wo.heap.size) q5 (fun x hx r hr k' hk' => ((q4.ents x hx r hr).key hk').2) (fun r hr k' hk' => ?_) r5
              have := ((r4 r hr).key hk').1
              omega
          have hb5 : Below Wa.heap.size Wa w5 := ((hb.trans (hbw.mono hso)).alloc (by omega) _).grown HA5.out.grown (by simp; omega) (fun j hj => by cases hj; exact hg.1)
          clear hus hz n0 n1
          go_wp2_with fail
          go_roundw
          case rel =>
            go_light
            obtain ⟨xs', a1, a2, a3, a4, a5⟩ := HN.out
            exact ⟨k + 1, g5, cp5, xs', by omega, by go_num, rfl, a1, a2, a3, a4, a5, hb5⟩
          case measure => go_light; simp [intOf]; omega
    · have zk : ¬ (k : Int) < (ts.length : Int) := by omega
      obtain ⟨_, d1, d2, _⟩ := HWa.out wo hb
      have HF : Hid (xs.length = k ∧ OwnSt (wo.setCell ⟨w.heap.size + 1, 0, none⟩ (.slice (some ⟨g, 0, none⟩) k cp)) w.heap.size (.slice (some ⟨g, 0, none⟩) k cp) xs ∧ ApartT xs ∧ xs.map Tx.tb = ts.map Ty.tb ∧ Below w.heap.size w (wo.setCell ⟨w.heap.size + 1, 0, none⟩ (.slice (some ⟨g, 0, none⟩) k cp))) := by
        obtain ⟨q1, q2, q3, q4, q5⟩ := HR.out
        rw [List.take_of_length_le (by omega)] at q2
        have hq := row_set q3 (w.heap.size + 1) 0 (.slice (some ⟨g, 0, none⟩) k cp) (by omega)
        have ht := q4.set (w.heap.size + 1) 0 (.slice (some ⟨g, 0, none⟩) k cp) (by omega)
        exact ⟨q1, ⟨ownTRow_of (row_mono hq (by omega)) q1, fun t ht' => (ht.runs t ht').mono (by omega), fun t ht' r hr => (ht.ents t ht' r hr).mono (by omega)⟩, q5, q2, ((hba.trans (hb.mono (by omega))).setCell (by show w.heap.size ≤ w.heap.size + 1; omega) _)⟩
      go_wp2_with fail
      refine bodyPost_ret (v := .agg #[.slice (some ⟨g, 0, none⟩) k cp]) (by simp [results, Try.results79, go_sem, d1]) rfl ⟨g, cp, xs, by rw [HF.out.1], by rw [HF.out.1]; exact HF.out.2.1, HF.out.2.2.1, HF.out.2.2.2.1, HF.out.2.2.2.2⟩
end Go.Proofs.Ytlgeffinhbodeae
