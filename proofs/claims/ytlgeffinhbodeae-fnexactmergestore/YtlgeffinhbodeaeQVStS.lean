/-
  spec.ValidStore.
-/
import Derived.Test.YtlgeffinhbodeaeQVStJ
namespace Go.Proofs.Ytlgeffinhbodeae
open Go.ChangeShapes Go.WideShapes Go.ChangeAt Go.RowKit Go.Deep
set_option linter.unusedVariables false
set_option linter.unusedSimpArgs false
set_option maxRecDepth 100000

theorem goodRuns_det (b off cap : Nat) (l : List Rm) (w : World) (hR : RmsAt w b off l) (hok : okM l) (hB : b < w.heap.size) (hlen : l.length ≤ 1048576) (R : Bool) (h : R = true ↔ GoodRs (esM l)) :
    Calls Try.prog 41 #[.slice (some ⟨b, off, none⟩) l.length cap] w fun e w' => e = .returned (.bool R) ∧ Below w.heap.size w w' :=
  (goodRuns_core b off cap l w hR hok hB hlen).mono fun e w' ⟨r, h1, h2, h3⟩ => by
    have : r = R := by rw [Bool.eq_iff_iff, h2, h]
    subst this
    exact ⟨h1, h3⟩

set_option maxHeartbeats 8000000 in
theorem specValidStore_say (b off cap : Nat) (ts : List Tm) (w : World) (h : TmsAt w b off ts) (hok : okTs ts) (hB : b < w.heap.size) (hn : ts.length ≤ 1048576) :
    Calls Try.prog 72 #[.agg #[.slice (some ⟨b, off, none⟩) ts.length cap]] w fun e w' => SayB (GoodS (tbs ts)) w e w' := by
  obtain ⟨W0, hW0⟩ : ∃ W0 : World, W0 = w.alloc (Obj.cells #[.slice (some ⟨b, off, none⟩) ts.length cap] 66) := ⟨_, rfl⟩
  have hb0 : Below w.heap.size w W0 := by rw [hW0]; exact (Below.refl _ _).alloc (Nat.le_refl _) _
  have hz0 : W0.heap.size = w.heap.size + 1 := by rw [hW0]; simp
  have HC : Hid (∀ wx, Below W0.heap.size W0 wx → wx.cell? ⟨w.heap.size, 0, none⟩ = some (.slice (some ⟨b, off, none⟩) ts.length cap)) := by
    intro wx hb
    rw [hb.cell (p := ⟨w.heap.size, 0, none⟩) (by show w.heap.size < W0.heap.size; omega), hW0]; simp
  have HT : Hid (TmsAt W0 b off ts ∧ okTs ts) := ⟨h.below hb0 hB, hok⟩
  have hB0 : b < W0.heap.size := by omega
  clear h hok
  by_cases h1 : ts.length = 0
  · have H : Hid (¬ GoodS (tbs ts)) := fun q => by have := q.ne; rw [tbs_len] at this; omega
    have z1 : (ts.length : Int) < 1 := by omega
    clear h1
    go_enter Try.func72, Try.ntmps72
    go_wp2_with fail
    go_ret
    rw [← hW0]
    exact ⟨_, rfl, iffF H.out, hb0⟩
  by_cases h2 : 100 < ts.length
  · have H : Hid (¬ GoodS (tbs ts)) := fun q => by have := q.le; rw [tbs_len] at this; omega
    have z1 : ¬ (ts.length : Int) < 1 := by omega
    have z2 : (100 : Int) < ts.length := by omega
    go_enter Try.func72, Try.ntmps72
    go_wp2_with fail
    go_ret
    rw [← hW0]
    exact ⟨_, rfl, iffF H.out, hb0⟩
  have z1 : ¬ (ts.length : Int) < 1 := by omega
  have z2 : ¬ (100 : Int) < ts.length := by omega
  obtain ⟨t0, ht0⟩ : ∃ t, ts[0]? = some t := ⟨_, List.getElem?_eq_getElem (by omega)⟩
  have c0 := HC.out W0 (Below.refl _ _)
  have d0 := (HT.out.1 0 t0 ht0).1
  rw [Nat.zero_mul, Nat.add_zero] at d0
  have H0 : Hid (ts[0]? = some t0) := ht0
  clear ht0
  cases he : t0.lo.toList.isEmpty
  · have H : Hid (¬ GoodS (tbs ts)) := fun q => by
      have := q.first t0.tb (by rw [tbs_get, H0.out]; rfl)
      have h3 : t0.lo.toList.isEmpty = true := size_empty.2 this
      rw [he] at h3
      cases h3
    go_enter Try.func72, Try.ntmps72
    go_upto_region 1 with fail
    rw [← hW0]
    clear hW0
    go_wp2_with fail
    go_ret
    exact ⟨_, rfl, iffF H.out, hb0⟩
  have HF : Hid (∀ t, ts[0]? = some t → t.lo.size = 0) := fun t ht => by
    rw [H0.out] at ht
    cases ht
    exact size_empty.1 he
  go_enter Try.func72, Try.ntmps72
  go_upto_region 1 with fail
  rw [← hW0]
  clear hW0
  go_wp2_with fail
  clear c0 d0 he
  go_loopw [4] (fun i wr => ∃ (k : Nat), k ≤ ts.length ∧ i = .int .i64 k ∧ (∀ j t, j < k → ts[j]? = some t → GoodT (tbs ts) j t.tb) ∧ Below W0.heap.size W0 wr) (fun i _ => ts.length - (intOf i).toNat)
  case atStart => exact ⟨0, Nat.zero_le _, rfl, fun j t hj => by omega, Below.refl _ _⟩
  case round =>
    obtain ⟨k, hk, rfl, hv, hb⟩ := hrel
    have HV : Hid (∀ j t, j < k → ts[j]? = some t → GoodT (tbs ts) j t.tb) := hv
    have hsz := hb.size
    have hbx := hb0.trans (hb.mono (by omega))
    clear hv
    by_cases hlt : k < ts.length
    · obtain ⟨t, ht⟩ : ∃ t, ts[k]? = some t := ⟨_, List.getElem?_eq_getElem hlt⟩
      obtain ⟨c0, c1, ha⟩ := (HT.out.1.below hb hB0) k t ht
      have HA : Hid (t.at wr ∧ ts[k]? = some t ∧ OkTm t) := ⟨ha, ht, HT.out.2 t (List.mem_of_getElem? ht)⟩
      have hrl : t.l.length ≤ 1048576 := HA.out.2.2.runs
      have hsl : t.lo.size ≤ maxLen := HA.out.2.2.lo
      unfold maxLen at hsl
      have cw := HC.out wr hb
      clear ha ht
      obtain ⟨W1, hW1⟩ : ∃ W1 : World, W1 = wr.alloc (Obj.cells #[.string t.lo, .slice (some ⟨t.b, t.off, none⟩) t.l.length t.cap] 133) := ⟨_, rfl⟩
      have hbA : Below wr.heap.size wr W1 := by rw [hW1]; exact (Below.refl _ _).alloc (Nat.le_refl _) _
      have hzA : W1.heap.size = wr.heap.size + 1 := by rw [hW1]; simp
      have hbz : Below W0.heap.size W0 W1 := hb.trans (hbA.mono hsz)
      have hbzx : Below w.heap.size w W1 := hb0.trans (hbz.mono (by omega))
      have HCA : Hid (∀ wx, Below W1.heap.size W1 wx → wx.cell? ⟨wr.heap.size, 0, none⟩ = some (.string t.lo) ∧ wx.cell? ⟨wr.heap.size, 1, none⟩ = some (.slice (some ⟨t.b, t.off, none⟩) t.l.length t.cap) ∧ wx.cell? ⟨w.heap.size, 0, none⟩ = some (.slice (some ⟨b, off, none⟩) ts.length cap) ∧ TmsAt wx b off ts ∧ b < wx.heap.size ∧ t.at wx) := by
        intro wx hx
        have sx := hx.size
        refine ⟨?_, ?_, HC.out wx (hbz.trans (hx.mono (by omega))), (HT.out.1.below hbz hB0).below hx (by omega), by omega, (HA.out.1.below hbA).below hx⟩
        · rw [hx.cell (p := ⟨wr.heap.size, 0, none⟩) (by show wr.heap.size < W1.heap.size; omega), hW1]; simp
        · rw [hx.cell (p := ⟨wr.heap.size, 1, none⟩) (by show wr.heap.size < W1.heap.size; omega), hW1]; simp
      have cR : ∀ n : Out W1, n.u.cell? ⟨wr.heap.size, 0, none⟩ = some (.string t.lo) := fun n => (HCA.out n.u n.out).1
      have cU : ∀ n : Out W1, n.u.cell? ⟨wr.heap.size, 1, none⟩ = some (.slice (some ⟨t.b, t.off, none⟩) t.l.length t.cap) := fun n => (HCA.out n.u n.out).2.1
      have cS : ∀ n : Out W1, n.u.cell? ⟨w.heap.size, 0, none⟩ = some (.slice (some ⟨b, off, none⟩) ts.length cap) := fun n => (HCA.out n.u n.out).2.2.1
      have inh : Nonempty (Out W1) := ⟨⟨W1, Below.refl _ _⟩⟩
      have zk : (k : Int) < (ts.length : Int) := by omega
      have hB1 : b < W1.heap.size := by omega
      obtain ⟨p, hp⟩ : ∃ p, (0 < k → ts[k - 1]? = some p) := by
        by_cases h0 : 0 < k
        · exact ⟨ts[k - 1]'(by omega), fun _ => List.getElem?_eq_getElem _⟩
        · exact ⟨t, fun q => absurd q h0⟩
      have p0 : 0 < k → ∀ n : Out W1, n.u.cell? ⟨b, off + (k - 1) * 2, none⟩ = some (.string p.lo) := fun q n => ((HCA.out n.u n.out).2.2.2.1 (k - 1) p (hp q)).1
      have HP : Hid (0 < k → ts[k - 1]? = some p) := hp
      clear hp
      obtain ⟨R, hR⟩ := bool_ex (GoodRs (esM t.l))
      have HR : Hid (R = true ↔ GoodRs (esM t.l)) := hR
      clear hR
      by_cases hl : 64 < t.lo.size
      · have H : Hid (¬ GoodS (tbs ts)) := fun q => by
          have h3 : t.lo.size ≤ 64 := (goodS_at q HA.out.2.1).size
          omega
        have hd : decide ((64 : Int) < (t.lo.size : Int)) = true := decide_eq_true (by omega)
        clear hl p0
        go_upto_region 8 with fail
        rw [← hW1]
        clear hW1
        refine wp_region_out (by kernel_rfl) (by kernel_rfl) ?_
        repeat (go_big_quiet_step (fail))
        refine wpQuiet_nil ?_
        rintro wz ⟨⟨wx', hbz'⟩, rfl⟩
        have hbw : Below w.heap.size w wz := hbzx.trans (hbz'.mono (by omega))
        go_wp2_with fail
        go_ret
        exact ⟨_, rfl, iffF H.out, hbw⟩
      have hd : decide ((64 : Int) < (t.lo.size : Int)) = false := decide_eq_false (by omega)
      have HL : Hid (¬ 64 < t.lo.size) := hl
      clear hl
      by_cases hk0 : k = 0
      · have hg : decide (0 < k) = false := decide_eq_false (by omega)
        have HK : Hid (k = 0) := hk0
        clear hk0 p0
        go_upto_region 8 with fail
        rw [← hW1]
        clear hW1
        refine wp_region_out (by kernel_rfl) (by kernel_rfl) ?_
        repeat (go_big_quiet_step ((go_at_call 41; exact Calls.out_of (goodRuns_det t.b t.off t.cap t.l _ (HCA.out _ (Out.out _)).2.2.2.2.2.rms HA.out.2.2.ents (HCA.out _ (Out.out _)).2.2.2.2.2.lt hrl R HR.out))))
        refine wpQuiet_nil ?_
        rintro wy ⟨⟨wx, hby⟩, rfl⟩
        have sy := hby.size
        have hbyx : Below w.heap.size w wy := hbzx.trans (hby.mono (by omega))
        have hbyz : Below W0.heap.size W0 wy := hbz.trans (hby.mono (by omega))
        clear cR cU cS
        cases R
        · have H : Hid (¬ GoodS (tbs ts)) := fun q => Bool.noConfusion (HR.out.2 (goodS_at q HA.out.2.1).runs)
          go_wp2_with fail
          go_ret
          exact ⟨_, rfl, iffF H.out, hbyx⟩
        have HG : Hid (GoodRs (esM t.l)) := HR.out.1 rfl
        go_wp2_with fail
        go_loopw [6] (fun i wr => ∃ (j : Nat), j ≤ t.l.length ∧ i = .int .i64 j ∧ (∀ r ∈ t.l.take j, r.es ≠ [] ∧ ∀ e ∈ r.es, inR t.lo (hasN (tbs ts) k) (hiN (tbs ts) k) e.row = true) ∧ Below W1.heap.size W1 wr) (fun i _ => t.l.length - (intOf i).toNat)
        case atStart => exact ⟨0, Nat.zero_le _, rfl, by simp, hby⟩
        case round =>
          obtain ⟨wr_1, hw1⟩ : ∃ v : World, v = wr := ⟨_, rfl⟩
          subst hw1
          obtain ⟨j, hj, rfl, hvj, hbj⟩ := hrel
          have HJ : Hid (∀ r ∈ t.l.take j, r.es ≠ [] ∧ ∀ e ∈ r.es, inR t.lo (hasN (tbs ts) k) (hiN (tbs ts) k) e.row = true) := hvj
          have sj := hbj.size
          have hbjx : Below w.heap.size w wr_1 := hbzx.trans (hbj.mono (by omega))
          have hbjz : Below W0.heap.size W0 wr_1 := hbz.trans (hbj.mono (by omega))
          clear hvj
          obtain ⟨e0, e1, e2, e3, e4, e5⟩ := HCA.out wr_1 hbj
          have HTm : Hid (t.at wr_1) := e5
          clear e3 e5
          by_cases hjl : j < t.l.length
          · obtain ⟨r, hr⟩ : ∃ r, t.l[j]? = some r := ⟨_, List.getElem?_eq_getElem hjl⟩
            obtain ⟨f0, fa⟩ := HTm.out.rms j r hr
            have HRr : Hid (r.at wr_1 ∧ t.l[j]? = some r ∧ GoodR r.es) := ⟨fa, hr, goodRs_mem HG.out (List.mem_of_getElem? hr)⟩
            have hrr : r.es.length ≤ 1048576 := by have := HRr.out.2.2.1.1; omega
            clear fa hr
            have zj : (j : Int) < (t.l.length : Int) := by omega
            by_cases hemp : r.es.length = 0
            · have H : Hid (¬ GoodS (tbs ts)) := fun q => (rowsIn_mem (goodS_at q HA.out.2.1).rows (List.mem_of_getElem? HRr.out.2.1)).1 (List.eq_nil_of_length_eq_zero hemp)
              have hd0 : ((r.es.length : Int) == 0) = true := by rw [hemp]; rfl
              clear hemp
              go_wp2_with fail
              go_ret
              exact ⟨_, rfl, iffF H.out, hbjx⟩
            have hd0 : ((r.es.length : Int) == 0) = false := beq_eq_false_iff_ne.2 (by omega)
            have HM : Hid (¬ r.es.length = 0) := hemp
            clear hemp
            go_wp2_with fail
            go_loopw [8] (fun i wr => ∃ (m : Nat), m ≤ r.es.length ∧ i = .int .i64 m ∧ (∀ e ∈ r.es.take m, inR t.lo (hasN (tbs ts) k) (hiN (tbs ts) k) e.row = true) ∧ Below wr_1.heap.size wr_1 wr) (fun i _ => r.es.length - (intOf i).toNat)
            case atStart => exact ⟨0, Nat.zero_le _, rfl, by simp, Below.refl _ _⟩
            case round =>
              obtain ⟨wr_2, hw2⟩ : ∃ v : World, v = wr := ⟨_, rfl⟩
              subst hw2
              obtain ⟨m, hm, rfl, hvm, hbm⟩ := hrel
              have HMm : Hid (∀ e ∈ r.es.take m, inR t.lo (hasN (tbs ts) k) (hiN (tbs ts) k) e.row = true) := hvm
              have sm := hbm.size
              have hbmx : Below w.heap.size w wr_2 := hbjx.trans (hbm.mono (by omega))
              have hbmj : Below W1.heap.size W1 wr_2 := hbj.trans (hbm.mono (by omega))
              clear hvm
              by_cases hml : m < r.es.length
              · obtain ⟨x, hx⟩ : ∃ x, r.es[m]? = some x := ⟨_, List.getElem?_eq_getElem hml⟩
                have q0 := (ents_out (HRr.out.1.ents.below hbm HRr.out.1.lt) (by have := HRr.out.1.lt; omega) hx).1
                have HXx : Hid (r.es[m]? = some x) := hx
                have qS : ∀ n : Out wr_2, n.u.cell? ⟨w.heap.size, 0, none⟩ = some (.slice (some ⟨b, off, none⟩) ts.length cap) := fun n => (HCA.out n.u (hbmj.trans (n.out.mono hbmj.size))).2.2.1
                have HY : Hid (∀ n : Out wr_2, TmsAt n.u b off ts ∧ b < n.u.heap.size) := fun n => ⟨(HCA.out n.u (hbmj.trans (n.out.mono hbmj.size))).2.2.2.1, (HCA.out n.u (hbmj.trans (n.out.mono hbmj.size))).2.2.2.2.1⟩
                clear hx
                have zm : (m : Int) < (r.es.length : Int) := by omega
                have inh2 : Nonempty (Out wr_2) := ⟨⟨wr_2, Below.refl _ _⟩⟩
                go_upto_region 19 with fail
                refine wp_region_out (by kernel_rfl) (by kernel_rfl) ?_
                repeat (go_big_quiet_step ((first
                  | (go_at_call 114; exact Calls.out_of (specRange_core b off cap ts k t _ (HY.out _).1 (HY.out _).2 HA.out.2.1 hn))
                  | (go_at_call 42; exact Calls.out_of (specInRange_core t.lo (hiN (tbs ts) k) x.row (hasN (tbs ts) k) _)))))
                refine wpQuiet_nil ?_
                rintro wz ⟨⟨wx', hbz'⟩, rfl⟩
                have hbw : Below w.heap.size w wz := hbmx.trans (hbz'.mono (by omega))
                have hbw2 : Below wr_1.heap.size wr_1 wz := hbm.trans (hbz'.mono (by omega))
                cases hin : inR t.lo (hasN (tbs ts) k) (hiN (tbs ts) k) x.row
                · have H : Hid (¬ GoodS (tbs ts)) := fun q => by
                    have h3 := (rowsIn_mem (goodS_at q HA.out.2.1).rows (List.mem_of_getElem? HRr.out.2.1)).2 x (List.mem_of_getElem? HXx.out)
                    have h4 : inR t.lo (hasN (tbs ts) k) (hiN (tbs ts) k) x.row = true := h3
                    rw [hin] at h4
                    cases h4
                  go_wp2_with fail
                  go_ret
                  exact ⟨_, rfl, iffF H.out, hbw⟩
                · have H : Hid (∀ e ∈ r.es.take (m + 1), inR t.lo (hasN (tbs ts) k) (hiN (tbs ts) k) e.row = true) := fun y hy => by
                    rcases mem_take_succ HXx.out hy with h | rfl
                    · exact HMm.out y h
                    · exact hin
                  go_wp2_with fail
                  go_roundw
                  case rel => exact ⟨m + 1, by omega, by go_num, H.out, hbw2⟩
                  case measure => go_light; simp [intOf]; omega
              · have zm : ¬ (m : Int) < (r.es.length : Int) := by omega
                have H : Hid (∀ x ∈ t.l.take (j + 1), x.es ≠ [] ∧ ∀ e ∈ x.es, inR t.lo (hasN (tbs ts) k) (hiN (tbs ts) k) e.row = true) := fun y hy => by
                  rcases mem_take_succ HRr.out.2.1 hy with h | rfl
                  · exact HJ.out y h
                  · refine ⟨fun q => HM.out (by rw [q]; rfl), fun e he => HMm.out e ?_⟩
                    rw [List.take_of_length_le (by omega)]; exact he
                go_wp2_with fail
                go_roundw
                case rel => exact ⟨j + 1, by omega, by go_num, H.out, hbmj⟩
                case measure => go_light; simp [intOf]; omega
          · have zj : ¬ (j : Int) < (t.l.length : Int) := by omega
            have H : Hid (∀ j t, j < k + 1 → ts[j]? = some t → GoodT (tbs ts) j t.tb) := fun i u hi hu => by
              by_cases hjk : i < k
              · exact HV.out i u hjk hu
              · have : i = k := by omega
                subst this
                rw [HA.out.2.1] at hu
                cases hu
                refine ⟨?_, fun q hq0 hq => ?_, HG.out, rowsIn_of (fun r hr => HJ.out r (by rw [List.take_of_length_le (by omega)]; exact hr))⟩
                · have := HL.out
                  show t.lo.size ≤ 64
                  omega
                · have := HK.out
                  omega
            go_wp2_with fail
            go_roundw
            case rel => exact ⟨k + 1, by omega, by go_num, H.out, hbjz⟩
            case measure => go_light; simp [intOf]; omega
      · have hg : decide (0 < k) = true := decide_eq_true (by omega)
        have em : (k : Int) - 1 = ((k - 1 : Nat) : Int) := by omega
        have p1 := p0 (by omega)
        clear p0
        cases hlo : Op.bytesLess p.lo.toList t.lo.toList
        · have hle : (Op.bytesLess t.lo.toList p.lo.toList || t.lo.toList == p.lo.toList) = true := by rw [le_less, hlo]; rfl
          have H : Hid (¬ GoodS (tbs ts)) := fun q => by
            have h3 := (goodS_at q HA.out.2.1).up p.tb (by omega) (by rw [tbs_get, HP.out (by omega)]; rfl)
            have h4 : Op.bytesLess p.lo.toList t.lo.toList = true := h3
            rw [hlo] at h4
            cases h4
          go_upto_region 8 with fail
          rw [← hW1]
          clear hW1
          refine wp_region_out (by kernel_rfl) (by kernel_rfl) ?_
          repeat (go_big_quiet_step ((go_at_call 41; exact Calls.out_of (goodRuns_det t.b t.off t.cap t.l _ (HCA.out _ (Out.out _)).2.2.2.2.2.rms HA.out.2.2.ents (HCA.out _ (Out.out _)).2.2.2.2.2.lt hrl R HR.out))))
          refine wpQuiet_nil ?_
          rintro wy ⟨⟨wx, hby⟩, rfl⟩
          have hbyx : Below w.heap.size w wy := hbzx.trans (hby.mono (by omega))
          go_wp2_with fail
          go_ret
          exact ⟨_, rfl, iffF H.out, hbyx⟩
        · have HLO : Hid (Op.bytesLess p.lo.toList t.lo.toList = true) := hlo
          have hle : (Op.bytesLess t.lo.toList p.lo.toList || t.lo.toList == p.lo.toList) = false := by rw [le_less, hlo]; rfl
          go_upto_region 8 with fail
          rw [← hW1]
          clear hW1
          refine wp_region_out (by kernel_rfl) (by kernel_rfl) ?_
          repeat (go_big_quiet_step ((go_at_call 41; exact Calls.out_of (goodRuns_det t.b t.off t.cap t.l _ (HCA.out _ (Out.out _)).2.2.2.2.2.rms HA.out.2.2.ents (HCA.out _ (Out.out _)).2.2.2.2.2.lt hrl R HR.out))))
          refine wpQuiet_nil ?_
          rintro wy ⟨⟨wx, hby⟩, rfl⟩
          have sy := hby.size
          have hbyx : Below w.heap.size w wy := hbzx.trans (hby.mono (by omega))
          have hbyz : Below W0.heap.size W0 wy := hbz.trans (hby.mono (by omega))
          clear cR cU cS p1
          cases R
          · have H : Hid (¬ GoodS (tbs ts)) := fun q => Bool.noConfusion (HR.out.2 (goodS_at q HA.out.2.1).runs)
            go_wp2_with fail
            go_ret
            exact ⟨_, rfl, iffF H.out, hbyx⟩
          have HG : Hid (GoodRs (esM t.l)) := HR.out.1 rfl
          go_wp2_with fail
          go_loopw [6] (fun i wr => ∃ (j : Nat), j ≤ t.l.length ∧ i = .int .i64 j ∧ (∀ r ∈ t.l.take j, r.es ≠ [] ∧ ∀ e ∈ r.es, inR t.lo (hasN (tbs ts) k) (hiN (tbs ts) k) e.row = true) ∧ Below W1.heap.size W1 wr) (fun i _ => t.l.length - (intOf i).toNat)
          case atStart => exact ⟨0, Nat.zero_le _, rfl, by simp, hby⟩
          case round =>
            obtain ⟨wr_1, hw1⟩ : ∃ v : World, v = wr := ⟨_, rfl⟩
            subst hw1
            obtain ⟨j, hj, rfl, hvj, hbj⟩ := hrel
            have HJ : Hid (∀ r ∈ t.l.take j, r.es ≠ [] ∧ ∀ e ∈ r.es, inR t.lo (hasN (tbs ts) k) (hiN (tbs ts) k) e.row = true) := hvj
            have sj := hbj.size
            have hbjx : Below w.heap.size w wr_1 := hbzx.trans (hbj.mono (by omega))
            have hbjz : Below W0.heap.size W0 wr_1 := hbz.trans (hbj.mono (by omega))
            clear hvj
            obtain ⟨e0, e1, e2, e3, e4, e5⟩ := HCA.out wr_1 hbj
            have HTm : Hid (t.at wr_1) := e5
            clear e3 e5
            by_cases hjl : j < t.l.length
            · obtain ⟨r, hr⟩ : ∃ r, t.l[j]? = some r := ⟨_, List.getElem?_eq_getElem hjl⟩
              obtain ⟨f0, fa⟩ := HTm.out.rms j r hr
              have HRr : Hid (r.at wr_1 ∧ t.l[j]? = some r ∧ GoodR r.es) := ⟨fa, hr, goodRs_mem HG.out (List.mem_of_getElem? hr)⟩
              have hrr : r.es.length ≤ 1048576 := by have := HRr.out.2.2.1.1; omega
              clear fa hr
              have zj : (j : Int) < (t.l.length : Int) := by omega
              by_cases hemp : r.es.length = 0
              · have H : Hid (¬ GoodS (tbs ts)) := fun q => (rowsIn_mem (goodS_at q HA.out.2.1).rows (List.mem_of_getElem? HRr.out.2.1)).1 (List.eq_nil_of_length_eq_zero hemp)
                have hd0 : ((r.es.length : Int) == 0) = true := by rw [hemp]; rfl
                clear hemp
                go_wp2_with fail
                go_ret
                exact ⟨_, rfl, iffF H.out, hbjx⟩
              have hd0 : ((r.es.length : Int) == 0) = false := beq_eq_false_iff_ne.2 (by omega)
              have HM : Hid (¬ r.es.length = 0) := hemp
              clear hemp
              go_wp2_with fail
              go_loopw [8] (fun i wr => ∃ (m : Nat), m ≤ r.es.length ∧ i = .int .i64 m ∧ (∀ e ∈ r.es.take m, inR t.lo (hasN (tbs ts) k) (hiN (tbs ts) k) e.row = true) ∧ Below wr_1.heap.size wr_1 wr) (fun i _ => r.es.length - (intOf i).toNat)
              case atStart => exact ⟨0, Nat.zero_le _, rfl, by simp, Below.refl _ _⟩
              case round =>
                obtain ⟨wr_2, hw2⟩ : ∃ v : World, v = wr := ⟨_, rfl⟩
                subst hw2
                obtain ⟨m, hm, rfl, hvm, hbm⟩ := hrel
                have HMm : Hid (∀ e ∈ r.es.take m, inR t.lo (hasN (tbs ts) k) (hiN (tbs ts) k) e.row = true) := hvm
                have sm := hbm.size
                have hbmx : Below w.heap.size w wr_2 := hbjx.trans (hbm.mono (by omega))
                have hbmj : Below W1.heap.size W1 wr_2 := hbj.trans (hbm.mono (by omega))
                clear hvm
                by_cases hml : m < r.es.length
                · obtain ⟨x, hx⟩ : ∃ x, r.es[m]? = some x := ⟨_, List.getElem?_eq_getElem hml⟩
                  have q0 := (ents_out (HRr.out.1.ents.below hbm HRr.out.1.lt) (by have := HRr.out.1.lt; omega) hx).1
                  have HXx : Hid (r.es[m]? = some x) := hx
                  have qS : ∀ n : Out wr_2, n.u.cell? ⟨w.heap.size, 0, none⟩ = some (.slice (some ⟨b, off, none⟩) ts.length cap) := fun n => (HCA.out n.u (hbmj.trans (n.out.mono hbmj.size))).2.2.1
                  have HY : Hid (∀ n : Out wr_2, TmsAt n.u b off ts ∧ b < n.u.heap.size) := fun n => ⟨(HCA.out n.u (hbmj.trans (n.out.mono hbmj.size))).2.2.2.1, (HCA.out n.u (hbmj.trans (n.out.mono hbmj.size))).2.2.2.2.1⟩
                  clear hx
                  have zm : (m : Int) < (r.es.length : Int) := by omega
                  have inh2 : Nonempty (Out wr_2) := ⟨⟨wr_2, Below.refl _ _⟩⟩
                  go_upto_region 19 with fail
                  refine wp_region_out (by kernel_rfl) (by kernel_rfl) ?_
                  repeat (go_big_quiet_step ((first
                    | (go_at_call 114; exact Calls.out_of (specRange_core b off cap ts k t _ (HY.out _).1 (HY.out _).2 HA.out.2.1 hn))
                    | (go_at_call 42; exact Calls.out_of (specInRange_core t.lo (hiN (tbs ts) k) x.row (hasN (tbs ts) k) _)))))
                  refine wpQuiet_nil ?_
                  rintro wz ⟨⟨wx', hbz'⟩, rfl⟩
                  have hbw : Below w.heap.size w wz := hbmx.trans (hbz'.mono (by omega))
                  have hbw2 : Below wr_1.heap.size wr_1 wz := hbm.trans (hbz'.mono (by omega))
                  cases hin : inR t.lo (hasN (tbs ts) k) (hiN (tbs ts) k) x.row
                  · have H : Hid (¬ GoodS (tbs ts)) := fun q => by
                      have h3 := (rowsIn_mem (goodS_at q HA.out.2.1).rows (List.mem_of_getElem? HRr.out.2.1)).2 x (List.mem_of_getElem? HXx.out)
                      have h4 : inR t.lo (hasN (tbs ts) k) (hiN (tbs ts) k) x.row = true := h3
                      rw [hin] at h4
                      cases h4
                    go_wp2_with fail
                    go_ret
                    exact ⟨_, rfl, iffF H.out, hbw⟩
                  · have H : Hid (∀ e ∈ r.es.take (m + 1), inR t.lo (hasN (tbs ts) k) (hiN (tbs ts) k) e.row = true) := fun y hy => by
                      rcases mem_take_succ HXx.out hy with h | rfl
                      · exact HMm.out y h
                      · exact hin
                    go_wp2_with fail
                    go_roundw
                    case rel => exact ⟨m + 1, by omega, by go_num, H.out, hbw2⟩
                    case measure => go_light; simp [intOf]; omega
                · have zm : ¬ (m : Int) < (r.es.length : Int) := by omega
                  have H : Hid (∀ x ∈ t.l.take (j + 1), x.es ≠ [] ∧ ∀ e ∈ x.es, inR t.lo (hasN (tbs ts) k) (hiN (tbs ts) k) e.row = true) := fun y hy => by
                    rcases mem_take_succ HRr.out.2.1 hy with h | rfl
                    · exact HJ.out y h
                    · refine ⟨fun q => HM.out (by rw [q]; rfl), fun e he => HMm.out e ?_⟩
                      rw [List.take_of_length_le (by omega)]; exact he
                  go_wp2_with fail
                  go_roundw
                  case rel => exact ⟨j + 1, by omega, by go_num, H.out, hbmj⟩
                  case measure => go_light; simp [intOf]; omega
            · have zj : ¬ (j : Int) < (t.l.length : Int) := by omega
              have H : Hid (∀ j t, j < k + 1 → ts[j]? = some t → GoodT (tbs ts) j t.tb) := fun i u hi hu => by
                by_cases hjk : i < k
                · exact HV.out i u hjk hu
                · have : i = k := by omega
                  subst this
                  rw [HA.out.2.1] at hu
                  cases hu
                  refine ⟨?_, fun q hq0 hq => ?_, HG.out, rowsIn_of (fun r hr => HJ.out r (by rw [List.take_of_length_le (by omega)]; exact hr))⟩
                  · have := HL.out
                    show t.lo.size ≤ 64
                    omega
                  · rw [tbs_get, HP.out (by omega)] at hq
                    cases hq
                    exact HLO.out
              go_wp2_with fail
              go_roundw
              case rel => exact ⟨k + 1, by omega, by go_num, H.out, hbjz⟩
              case measure => go_light; simp [intOf]; omega
    · have zk : ¬ (k : Int) < (ts.length : Int) := by omega
      have H : Hid (GoodS (tbs ts)) := goodS_of (by omega) (by omega) HF.out (fun i t ht => HV.out i t (by have := (List.getElem?_eq_some_iff.1 ht).1; omega) ht)
      go_wp2_with fail
      go_ret
      exact ⟨_, rfl, iffT H.out, hbx⟩
theorem specValidStore_core (b off cap : Nat) (ts : List Tm) (w : World) (h : TmsAt w b off ts) (hok : okTs ts) (hB : b < w.heap.size) (hn : ts.length ≤ 1048576) :
    Calls Try.prog 72 #[.agg #[.slice (some ⟨b, off, none⟩) ts.length cap]] w fun e w' =>
      ∃ r : Bool, e = .returned (.bool r) ∧ (r = true ↔ GoodS (tbs ts)) ∧ Below w.heap.size w w' := specValidStore_say b off cap ts w h hok hB hn
end Go.Proofs.Ytlgeffinhbodeae
