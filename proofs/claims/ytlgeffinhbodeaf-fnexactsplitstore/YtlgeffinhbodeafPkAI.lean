import Derived.BigQuiet
import Derived.Test.YtlgeffinhbodeafPkAH
import Derived.Test.YtlgeffinhbodeafPkAG
import Derived.Test.YtlgeffinhbodeafPkAE
import Derived.Test.YtlgeffinhbodeafPkAD
/-
  spec.ValidStore.
-/
namespace Go.Proofs.Ytlgeffinhbodeaf
open Go.ChangeShapes Go.WideShapes Go.ChangeAt Go.RowKit Go.Deep
set_option linter.unusedVariables false
set_option linter.unusedSimpArgs false
set_option maxRecDepth 100000

theorem goodRuns_det (b off cap : Nat) (l : List Rm) (w : World) (hR : RmsAt w b off l) (hok : okM l) (hB : b < w.heap.size) (hlen : l.length ≤ 1048576) (R : Bool) (h : R = true ↔ GoodRs (esM l)) :
    Calls Try.prog 57 #[.slice (some ⟨b, off, none⟩) l.length cap] w fun e w' => e = .returned (.bool R) ∧ Below w.heap.size w w' :=
  (goodRuns_core b off cap l w hR hok hB hlen).mono fun e w' ⟨r, h1, h2, h3⟩ => by
    have : r = R := by rw [Bool.eq_iff_iff, h2, h]
    subst this
    exact ⟨h1, h3⟩

set_option maxHeartbeats 8000000 in
theorem specValidStore_say (b off cap : Nat) (ts : List Tm) (w : World) (h : TmsAt w b off ts) (hok : okTs ts) (hB : b < w.heap.size) (hn : ts.length ≤ 1048576) :
    Calls Try.prog 22 #[.agg #[.slice (some ⟨b, off, none⟩) ts.length cap]] w fun e w' => SayB (GoodS (tbs ts)) w e w' := by
  obtain ⟨W0, hW0⟩ : ∃ W0 : World, W0 = w.alloc (Obj.cells #[.slice (some ⟨b, off, none⟩) ts.length cap] 28) := ⟨_, rfl⟩
  have hb0 : Below w.heap.size w W0 := by rw [hW0]; exact (Below.refl _ _).alloc (Nat.le_refl _) _
  have hz0 : W0.heap.size = w.heap.size + 1 := by rw [hW0]; simp
  have HC : Hid (∀ wx, Below W0.heap.size W0 wx → wx.cell? ⟨w.heap.size, 0, none⟩ = some (.slice (some ⟨b, off, none⟩) ts.length cap)) := by
    intro wx hb
    rw [hb.cell (p := ⟨w.heap.size, 0, none⟩) (by show w.heap.size < W0.heap.size; omega), hW0]; simp
  have HT : Hid (TmsAt W0 b off ts ∧ okTs ts) := ⟨h.below hb0 hB, hok⟩
  have hB0 : b < W0.heap.size := by omega
  clear h hok
  by_cases h1 : ts.length = 0
  · have H : Hid (¬ GoodS (tbs ts)) := fun q => by have := q.ne; rw [tbs_len] at this; omega
    have z1 : (ts.length : Int) < 1 := by omega
    clear h1
    go_enter Try.func22, Try.ntmps22
    go_wp2_with fail
    go_ret
    rw [← hW0]
    exact ⟨_, rfl, iffF H.out, hb0⟩
  by_cases h2 : 100 < ts.length
  · have H : Hid (¬ GoodS (tbs ts)) := fun q => by have := q.le; rw [tbs_len] at this; omega
    have z1 : ¬ (ts.length : Int) < 1 := by omega
    have z2 : (100 : Int) < ts.length := by omega
    go_enter Try.func22, Try.ntmps22
    go_wp2_with fail
    go_ret
    rw [← hW0]
    exact ⟨_, rfl, iffF H.out, hb0⟩
  have z1 : ¬ (ts.length : Int) < 1 := by omega
  have z2 : ¬ (100 : Int) < ts.length := by omega
  obtain ⟨t0, ht0⟩ : ∃ t, ts[0]? = some t := ⟨_, List.getElem?_eq_getElem (by omega)⟩
  have c0 := HC.out W0 (Below.refl _ _)
  have d0 := (HT.out.1 0 t0 ht0).1
  rw [Nat.zero_mul, Nat.add_zero] at d0
  have H0 : Hid (ts[0]? = some t0) := ht0
  clear ht0
  cases he : t0.lo.toList.isEmpty
  · have H : Hid (¬ GoodS (tbs ts)) := fun q => by
      have := q.first t0.tb (by rw [tbs_get, H0.out]; rfl)
      have h3 : t0.lo.toList.isEmpty = true := size_empty.2 this
      rw [he] at h3
      cases h3
    go_enter Try.func22, Try.ntmps22
    go_upto_region 1 with fail
    rw [← hW0]
    clear hW0
    go_wp2_with fail
    go_ret
    exact ⟨_, rfl, iffF H.out, hb0⟩
  have HF : Hid (∀ t, ts[0]? = some t → t.lo.size = 0) := fun t ht => by
    rw [H0.out] at ht
    cases ht
    exact size_empty.1 he
  go_enter Try.func22, Try.ntmps22
  go_upto_region 1 with fail
  rw [← hW0]
  clear hW0
  go_wp2_with fail
  clear c0 d0 he
  go_loopw [4] (fun i wr => ∃ (k : Nat), k ≤ ts.length ∧ i = .int .i64 k ∧ (∀ j t, j < k → ts[j]? = some t → GoodT (tbs ts) j t.tb) ∧ Below W0.heap.size W0 wr) (fun i _ => ts.length - (intOf i).toNat)
  case atStart => exact ⟨0, Nat.zero_le _, rfl, fun j t hj => by omega, Below.refl _ _⟩
  case round =>
    obtain ⟨k, hk, rfl, hv, hb⟩ := hrel
    have HV : Hid (∀ j t, j < k → ts[j]? = some t → GoodT (tbs ts) j t.tb) := hv
    have hsz := hb.size
    have hbx := hb0.trans (hb.mono (by omega))
    clear hv
    by_cases hlt : k < ts.length
    · obtain ⟨t, ht⟩ : ∃ t, ts[k]? = some t := ⟨_, List.getElem?_eq_getElem hlt⟩
      obtain ⟨c0, c1, ha⟩ := (HT.out.1.below hb hB0) k t ht
      have HA : Hid (t.at wr ∧ ts[k]? = some t ∧ OkTm t) := ⟨ha, ht, HT.out.2 t (List.mem_of_getElem? ht)⟩
      have hrl : t.l.length ≤ 1048576 := HA.out.2.2.runs
      have hsl : t.lo.size ≤ maxLen := HA.out.2.2.lo
      unfold maxLen at hsl
      have cw := HC.out wr hb
      clear ha ht
      obtain ⟨W1, hW1⟩ : ∃ W1 : World, W1 = wr.alloc (Obj.cells #[.string t.lo, .slice (some ⟨t.b, t.off, none⟩) t.l.length t.cap] 60) := ⟨_, rfl⟩
      have hbA : Below wr.heap.size wr W1 := by rw [hW1]; exact (Below.refl _ _).alloc (Nat.le_refl _) _
      have hzA : W1.heap.size = wr.heap.size + 1 := by rw [hW1]; simp
      have hbz : Below W0.heap.size W0 W1 := hb.trans (hbA.mono hsz)
      have hbzx : Below w.heap.size w W1 := hb0.trans (hbz.mono (by omega))
      have HCA : Hid (∀ wx, Below W1.heap.size W1 wx → wx.cell? ⟨wr.heap.size, 0, none⟩ = some (.string t.lo) ∧ wx.cell? ⟨wr.heap.size, 1, none⟩ = some (.slice (some ⟨t.b, t.off, none⟩) t.l.length t.cap) ∧ wx.cell? ⟨w.heap.size, 0, none⟩ = some (.slice (some ⟨b, off, none⟩) ts.length cap) ∧ TmsAt wx b off ts ∧ b < wx.heap.size ∧ t.at wx) := by
        intro wx hx
        have sx := hx.size
        refine ⟨?_, ?_, HC.out wx (hbz.trans (hx.mono (by omega))), (HT.out.1.below hbz hB0).below hx (by omega), by omega, (HA.out.1.below hbA).below hx⟩
        · rw [hx.cell (p := ⟨wr.heap.size, 0, none⟩) (by show wr.heap.size < W1.heap.size; omega), hW1]; simp
        · rw [hx.cell (p := ⟨wr.heap.size, 1, none⟩) (by show wr.heap.size < W1.heap.size; omega), hW1]; simp
      have cR : ∀ n : Out W1, n.u.cell? ⟨wr.heap.size, 0, none⟩ = some (.string t.lo) := fun n => (HCA.out n.u n.out).1
      have cU : ∀ n : Out W1, n.u.cell? ⟨wr.heap.size, 1, none⟩ = some (.slice (some ⟨t.b, t.off, none⟩) t.l.length t.cap) := fun n => (HCA.out n.u n.out).2.1
      have cS : ∀ n : Out W1, n.u.cell? ⟨w.heap.size, 0, none⟩ = some (.slice (some ⟨b, off, none⟩) ts.length cap) := fun n => (HCA.out n.u n.out).2.2.1
      have inh : Nonempty (Out W1) := ⟨⟨W1, Below.refl _ _⟩⟩
      have zk : (k : Int) < (ts.length : Int) := by omega
      have hB1 : b < W1.heap.size := by omega
      obtain ⟨p, hp⟩ : ∃ p, (0 < k → ts[k - 1]? = some p) := by
        by_cases h0 : 0 < k
        · exact ⟨ts[k - 1]'(by omega), fun _ => List.getElem?_eq_getElem _⟩
        · exact ⟨t, fun q => absurd q h0⟩
      have p0 : 0 < k → ∀ n : Out W1, n.u.cell? ⟨b, off + (k - 1) * 2, none⟩ = some (.string p.lo) := fun q n => ((HCA.out n.u n.out).2.2.2.1 (k - 1) p (hp q)).1
      have HP : Hid (0 < k → ts[k - 1]? = some p) := hp
      clear hp
      obtain ⟨R, hR⟩ := bool_ex (GoodRs (esM t.l))
      have HR : Hid (R = true ↔ GoodRs (esM t.l)) := hR
      clear hR
      by_cases hl : 64 < t.lo.size
      · have H : Hid (¬ GoodS (tbs ts)) := fun q => by
          have h3 : t.lo.size ≤ 64 := (goodS_at q HA.out.2.1).size
          omega
        have hd : decide ((64 : Int) < (t.lo.size : Int)) = true := decide_eq_true (by omega)
        clear hl p0
        go_upto_region 8 with fail
        rw [← hW1]
        clear hW1
        refine wp_region_out (by kernel_rfl) (by kernel_rfl) ?_
        repeat (go_big_quiet_step (fail))
        refine wpQuiet_nil ?_
        rintro wz ⟨⟨wx', hbz'⟩, rfl⟩
        have hbw : Below w.heap.size w wz := hbzx.trans (hbz'.mono (by omega))
        go_wp2_with fail
        go_ret
        exact ⟨_, rfl, iffF H.out, hbw⟩
      have hd : decide ((64 : Int) < (t.lo.size : Int)) = false := decide_eq_false (by omega)
      have HL : Hid (¬ 64 < t.lo.size) := hl
      clear hl
      by_cases hk0 : k = 0
      · have hg : decide (0 < k) = false := decide_eq_false (by omega)
        have HK : Hid (k = 0) := hk0
        clear hk0 p0
        go_upto_region 8 with fail
        rw [← hW1]
        clear hW1
        refine wp_region_out (by kernel_rfl) (by kernel_rfl) ?_
        repeat (go_big_quiet_step ((go_at_call 57; exact Calls.out_of (goodRuns_det t.b t.off t.cap t.l _ (HCA.out _ (Out.out _)).2.2.2.2.2.rms HA.out.2.2.ents (HCA.out _ (Out.out _)).2.2.2.2.2.lt hrl R HR.out))))
        refine wpQuiet_nil ?_
        rintro wy ⟨⟨wx, hby⟩, rfl⟩
        have sy := hby.size
        have hbyx : Below w.heap.size w wy := hbzx.trans (hby.mono (by omega))
        have hbyz : Below W0.heap.size W0 wy := hbz.trans (hby.mono (by omega))
        clear cR cU cS
        cases R
        · have H : Hid (¬ GoodS (tbs ts)) := fun q => Bool.noConfusion (HR.out.2 (goodS_at q HA.out.2.1).runs)
          go_wp2_with fail
          go_ret
          exact ⟨_, rfl, iffF H.out, hbyx⟩
        have HG : Hid (GoodRs (esM t.l)) := HR.out.1 rfl
        go_wp2_with fail
        go_loopw [6] (fun i wr => ∃ (j : Nat), j ≤ t.l.length ∧ i = .int .i64 j ∧ (∀ r ∈ t.l.take j, r.es ≠ [] ∧ ∀ e ∈ r.es, inR t.lo (hasN (tbs ts) k) (hiN (tbs ts) k) e.row = true) ∧ Below W1.heap.size W1 wr) (fun i _ => t.l.length - (intOf i).toNat)
        case atStart => exact ⟨0, Nat.zero_le _, rfl, by simp, hby⟩
        case round =>
          obtain ⟨wr_1, hw1⟩ : ∃ v : World, v = wr := ⟨_, rfl⟩
          subst hw1
          obtain ⟨j, hj, rfl, hvj, hbj⟩ := hrel
          have HJ : Hid (∀ r ∈ t.l.take j, r.es ≠ [] ∧ ∀ e ∈ r.es, inR t.lo (hasN (tbs ts) k) (hiN (tbs ts) k) e.row = true) := hvj
          have sj := hbj.size
          have hbjx : Below w.heap.size w wr_1 := hbzx.trans (hbj.mono (by omega))
          have hbjz : Below W0.heap.size W0 wr_1 := hbz.trans (hbj.mono (by omega))
          clear hvj
          obtain ⟨e0, e1, e2, e3, e4, e5⟩ := HCA.out wr_1 hbj
          have HTm : Hid (t.at wr_1) := e5
          clear e3 e5
          by_cases hjl : j < t.l.length
          · obtain ⟨r, hr⟩ : ∃ r, t.l[j]? = some r := ⟨_, List.getElem?_eq_getElem hjl⟩
            obtain ⟨f0, fa⟩ := HTm.out.rms j r hr
            have HRr : Hid (r.at wr_1 ∧ t.l[j]? = some r ∧ GoodR r.es) := ⟨fa, hr, goodRs_mem HG.out (List.mem_of_getElem? hr)⟩
            have hrr : r.es.length ≤ 1048576 := by have := HRr.out.2.2.1.1; omega
            clear fa hr
            have zj : (j : Int) < (t.l.length : Int) := by omega
            by_cases hemp : r.es.length = 0
            · have H : Hid (¬ GoodS (tbs ts)) := fun q => (rowsIn_mem (goodS_at q HA.out.2.1).rows (List.mem_of_getElem? HRr.out.2.1)).1 (List.eq_nil_of_length_eq_zero hemp)
              have hd0 : ((r.es.length : Int) == 0) = true := by rw [hemp]; rfl
              clear hemp
              go_wp2_with fail
              go_ret
              exact ⟨_, rfl, iffF H.out, hbjx⟩
            have hd0 : ((r.es.length : Int) == 0) = false := beq_eq_false_iff_ne.2 (by omega)
            have HM : Hid (¬ r.es.length = 0) := hemp
            clear hemp
            go_wp2_with fail
            go_loopw [8] (fun i wr => ∃ (m : Nat), m ≤ r.es.length ∧ i = .int .i64 m ∧ (∀ e ∈ r.es.take m, inR t.lo (hasN (tbs ts) k) (hiN (tbs ts) k) e.row = true) ∧ Below wr_1.heap.size wr_1 wr) (fun i _ => r.es.length - (intOf i).toNat)
            case atStart => exact ⟨0, Nat.zero_le _, rfl, by simp, Below.refl _ _⟩
            case round =>
              obtain ⟨wr_2, hw2⟩ : ∃ v : World, v = wr := ⟨_, rfl⟩
              subst hw2
              obtain ⟨m, hm, rfl, hvm, hbm⟩ := hrel
              have HMm : Hid (∀ e ∈ r.es.take m, inR t.lo (hasN (tbs ts) k) (hiN (tbs ts) k) e.row = true) := hvm
              have sm := hbm.size
              have hbmx : Below w.heap.size w wr_2 := hbjx.trans (hbm.mono (by omega))
              have hbmj : Below W1.heap.size W1 wr_2 := hbj.trans (hbm.mono (by omega))
              clear hvm
              by_cases hml : m < r.es.length
              · obtain ⟨x, hx⟩ : ∃ x, r.es[m]? = some x := ⟨_, List.getElem?_eq_getElem hml⟩
                have q0 := (ents_out (HRr.out.1.ents.below hbm HRr.out.1.lt) (by have := HRr.out.1.lt; omega) hx).1
                have HXx : Hid (r.es[m]? = some x) := hx
                have qS : ∀ n : Out wr_2, n.u.cell? ⟨w.heap.size, 0, none⟩ = some (.slice (some ⟨b, off, none⟩) ts.length cap) := fun n => (HCA.out n.u (hbmj.trans (n.out.mono hbmj.size))).2.2.1
                have HY : Hid (∀ n : Out wr_2, TmsAt n.u b off ts ∧ b < n.u.heap.size) := fun n => ⟨(HCA.out n.u (hbmj.trans (n.out.mono hbmj.size))).2.2.2.1, (HCA.out n.u (hbmj.trans (n.out.mono hbmj.size))).2.2.2.2.1⟩
                clear hx
                have zm : (m : Int) < (r.es.length : Int) := by omega
                have inh2 : Nonempty (Out wr_2) := ⟨⟨wr_2, Below.refl _ _⟩⟩
                go_upto_region 19 with fail
                refine wp_region_out (by kernel_rfl) (by kernel_rfl) ?_
                repeat (go_big_quiet_step ((first
                  | (go_at_call 59; exact Calls.out_of (specRange_core b off cap ts k t _ (HY.out _).1 (HY.out _).2 HA.out.2.1 hn))
                  | (go_at_call 58; exact Calls.out_of (specInRange_core t.lo (hiN (tbs ts) k) x.row (hasN (tbs ts) k) _)))))
                refine wpQuiet_nil ?_
                rintro wz ⟨⟨wx', hbz'⟩, rfl⟩
                have hbw : Below w.heap.size w wz := hbmx.trans (hbz'.mono (by omega))
                have hbw2 : Below wr_1.heap.size wr_1 wz := hbm.trans (hbz'.mono (by omega))
                cases hin : inR t.lo (hasN (tbs ts) k) (hiN (tbs ts) k) x.row
                · have H : Hid (¬ GoodS (tbs ts)) := fun q => by
                    have h3 := (rowsIn_mem (goodS_at q HA.out.2.1).rows (List.mem_of_getElem? HRr.out.2.1)).2 x (List.mem_of_getElem? HXx.out)
                    have h4 : inR t.lo (hasN (tbs ts) k) (hiN (tbs ts) k) x.row = true := h3
                    rw [hin] at h4
                    cases h4
                  go_wp2_with fail
                  go_ret
                  exact ⟨_, rfl, iffF H.out, hbw⟩
                · have H : Hid (∀ e ∈ r.es.take (m + 1), inR t.lo (hasN (tbs ts) k) (hiN (tbs ts) k) e.row = true) := fun y hy => by
                    rcases mem_take_succ HXx.out hy with h | rfl
                    · exact HMm.out y h
                    · exact hin
                  go_wp2_with fail
                  go_roundw
                  case rel => exact ⟨m + 1, by omega, by go_num, H.out, hbw2⟩
                  case measure => go_light; simp [intOf]; omega
              · have zm : ¬ (m : Int) < (r.es.length : Int) := by omega
                have H : Hid (∀ x ∈ t.l.take (j + 1), x.es ≠ [] ∧ ∀ e ∈ x.es, inR t.lo (hasN (tbs ts) k) (hiN (tbs ts) k) e.row = true) := fun y hy => by
                  rcases mem_take_succ HRr.out.2.1 hy with h | rfl
                  · exact HJ.out y h
                  · refine ⟨fun q => HM.out (by rw [q]; rfl), fun e he => HMm.out e ?_⟩
                    rw [List.take_of_length_le (by omega)]; exact he
                go_wp2_with fail
                go_roundw
                case rel => exact ⟨j + 1, by omega, by go_num, H.out, hbmj⟩
                case measure => go_light; simp [intOf]; omega
          · have zj : ¬ (j : Int) < (t.l.length : Int) := by omega
            have H : Hid (∀ j t, j < k + 1 → ts[j]? = some t → GoodT (tbs ts) j t.tb) := fun i u hi hu => by
              by_cases hjk : i < k
              · exact HV.out i u hjk hu
              · have : i = k := by omega
                subst this
                rw [HA.out.2.1] at hu
                cases hu
                refine ⟨?_, fun q hq0 hq => ?_, HG.out, rowsIn_of (fun r hr => HJ.out r (by rw [List.take_of_length_le (by omega)]; exact hr))⟩
                · have := HL.out
                  show t.lo.size ≤ 64
                  omega
                · have := HK.out
                  omega
            go_wp2_with fail
            go_roundw
            case rel => exact ⟨k + 1, by omega, by go_num, H.out, hbjz⟩
            case measure => go_light; simp [intOf]; omega
      · have hg : decide (0 < k) = true := decide_eq_true (by omega)
        have em : (k : Int) - 1 = ((k - 1 : Nat) : Int) := by omega
        have p1 := p0 (by omega)
        clear p0
        cases hlo : Op.bytesLess p.lo.toList t.lo.toList
        · have hle : (Op.bytesLess t.lo.toList p.lo.toList || t.lo.toList == p.lo.toList) = true := by rw [le_less, hlo]; rfl
          have H : Hid (¬ GoodS (tbs ts)) := fun q => by
            have h3 := (goodS_at q HA.out.2.1).up p.tb (by omega) (by rw [tbs_get, HP.out (by omega)]; rfl)
            have h4 : Op.bytesLess p.lo.toList t.lo.toList = true := h3
            rw [hlo] at h4
            cases h4
          go_upto_region 8 with fail
          rw [← hW1]
          clear hW1
          refine wp_region_out (by kernel_rfl) (by kernel_rfl) ?_
          repeat (go_big_quiet_step ((go_at_call 57; exact Calls.out_of (goodRuns_det t.b t.off t.cap t.l _ (HCA.out _ (Out.out _)).2.2.2.2.2.rms HA.out.2.2.ents (HCA.out _ (Out.out _)).2.2.2.2.2.lt hrl R HR.out))))
          refine wpQuiet_nil ?_
          rintro wy ⟨⟨wx, hby⟩, rfl⟩
          have hbyx : Below w.heap.size w wy := hbzx.trans (hby.mono (by omega))
          go_wp2_with fail
          go_ret
          exact ⟨_, rfl, iffF H.out, hbyx⟩
        · have HLO : Hid (Op.bytesLess p.lo.toList t.lo.toList = true) := hlo
          have hle : (Op.bytesLess t.lo.toList p.lo.toList || t.lo.toList == p.lo.toList) = false := by rw [le_less, hlo]; rfl
          go_upto_region 8 with fail
          rw [← hW1]
          clear hW1
          refine wp_region_out (by kernel_rfl) (by kernel_rfl) ?_
          repeat (go_big_quiet_step ((go_at_call 57; exact Calls.out_of (goodRuns_det t.b t.off t.cap t.l _ (HCA.out _ (Out.out _)).2.2.2.2.2.rms HA.out.2.2.ents (HCA.out _ (Out.out _)).2.2.2.2.2.lt hrl R HR.out))))
          refine wpQuiet_nil ?_
          rintro wy ⟨⟨wx, hby⟩, rfl⟩
          have sy := hby.size
          have hbyx : Below w.heap.size w wy := hbzx.trans (hby.mono (by omega))
          have hbyz : Below W0.heap.size W0 wy := hbz.trans (hby.mono (by omega))
          clear cR cU cS p1
          cases R
          · have H : Hid (¬ GoodS (tbs ts)) := fun q => Bool.noConfusion (HR.out.2 (goodS_at q HA.out.2.1).runs)
            go_wp2_with fail
            go_ret
            exact ⟨_, rfl, iffF H.out, hbyx⟩
          have HG : Hid (GoodRs (esM t.l)) := HR.out.1 rfl
          go_wp2_with fail
          go_loopw [6] (fun i wr => ∃ (j : Nat), j ≤ t.l.length ∧ i = .int .i64 j ∧ (∀ r ∈ t.l.take j, r.es ≠ [] ∧ ∀ e ∈ r.es, inR t.lo (hasN (tbs ts) k) (hiN (tbs ts) k) e.row = true) ∧ Below W1.heap.size W1 wr) (fun i _ => t.l.length - (intOf i).toNat)
          case atStart => exact ⟨0, Nat.zero_le _, rfl, by simp, hby⟩
          case round =>
            obtain ⟨wr_1, hw1⟩ : ∃ v : World, v = wr := ⟨_, rfl⟩
            subst hw1
            obtain ⟨j, hj, rfl, hvj, hbj⟩ := hrel
            have HJ : Hid (∀ r ∈ t.l.take j, r.es ≠ [] ∧ ∀ e ∈ r.es, inR t.lo (hasN (tbs ts) k) (hiN (tbs ts) k) e.row = true) := hvj
            have sj := hbj.size
            have hbjx : Below w.heap.size w wr_1 := hbzx.trans (hbj.mono (by omega))
            have hbjz : Below W0.heap.size W0 wr_1 := hbz.trans (hbj.mono (by omega))
            clear hvj
            obtain ⟨e0, e1, e2, e3, e4, e5⟩ := HCA.out wr_1 hbj
            have HTm : Hid (t.at wr_1) := e5
            clear e3 e5
            by_cases hjl : j < t.l.length
            · obtain ⟨r, hr⟩ : ∃ r, t.l[j]? = some r := ⟨_, List.getElem?_eq_getElem hjl⟩
              obtain ⟨f0, fa⟩ := HTm.out.rms j r hr
              have HRr : Hid (r.at wr_1 ∧ t.l[j]? = some r ∧ GoodR r.es) := ⟨fa, hr, goodRs_mem HG.out (List.mem_of_getElem? hr)⟩
              have hrr : r.es.length ≤ 1048576 := by have := HRr.out.2.2.1.1; omega
              clear fa hr
              have zj : (j : Int) < (t.l.length : Int) := by omega
              by_cases hemp : r.es.length = 0
              · have H : Hid (¬ GoodS (tbs ts)) := fun q => (rowsIn_mem (goodS_at q HA.out.2.1).rows (List.mem_of_getElem? HRr.out.2.1)).1 (List.eq_nil_of_length_eq_zero hemp)
                have hd0 : ((r.es.length : Int) == 0) = true := by rw [hemp]; rfl
                clear hemp
                go_wp2_with fail
                go_ret
                exact ⟨_, rfl, iffF H.out, hbjx⟩
              have hd0 : ((r.es.length : Int) == 0) = false := beq_eq_false_iff_ne.2 (by omega)
              have HM : Hid (¬ r.es.length = 0) := hemp
              clear hemp
              go_wp2_with fail
              go_loopw [8] (fun i wr => ∃ (m : Nat), m ≤ r.es.length ∧ i = .int .i64 m ∧ (∀ e ∈ r.es.take m, inR t.lo (hasN (tbs ts) k) (hiN (tbs ts) k) e.row = true) ∧ Below wr_1.heap.size wr_1 wr) (fun i _ => r.es.length - (intOf i).toNat)
              case atStart => exact ⟨0, Nat.zero_le _, rfl, by simp, Below.refl _ _⟩
              case round =>
                obtain ⟨wr_2, hw2⟩ : ∃ v : World, v = wr := ⟨_, rfl⟩
                subst hw2
                obtain ⟨m, hm, rfl, hvm, hbm⟩ := hrel
                have HMm : Hid (∀ e ∈ r.es.take m, inR t.lo (hasN (tbs ts) k) (hiN (tbs ts) k) e.row = true) := hvm
                have sm := hbm.size
                have hbmx : Below w.heap.size w wr_2 := hbjx.trans (hbm.mono (by omega))
                have hbmj : Below W1.heap.size W1 wr_2 := hbj.trans (hbm.mono (by omega))
                clear hvm
                by_cases hml : m < r.es.length
                · obtain ⟨x, hx⟩ : ∃ x, r.es[m]? = some x := ⟨_, List.getElem?_eq_getElem hml⟩
                  have q0 := (ents_out (HRr.out.1.ents.below hbm HRr.out.1.lt) (by have := HRr.out.1.lt; omega) hx).1
                  have HXx : Hid (r.es[m]? = some x) := hx
                  have qS : ∀ n : Out wr_2, n.u.cell? ⟨w.heap.size, 0, none⟩ = some (.slice (some ⟨b, off, none⟩) ts.length cap) := fun n => (HCA.out n.u (hbmj.trans (n.out.mono hbmj.size))).2.2.1
                  have HY : Hid (∀ n : Out wr_2, TmsAt n.u b off ts ∧ b < n.u.heap.size) := fun n => ⟨(HCA.out n.u (hbmj.trans (n.out.mono hbmj.size))).2.2.2.1, (HCA.out n.u (hbmj.trans (n.out.mono hbmj.size))).2.2.2.2.1⟩
                  clear hx
                  have zm : (m : Int) < (r.es.length : Int) := by omega
                  have inh2 : Nonempty (Out wr_2) := ⟨⟨wr_2, Below.refl _ _⟩⟩
                  go_upto_region 19 with fail
                  refine wp_region_out (by kernel_rfl) (by kernel_rfl) ?_
                  repeat (go_big_quiet_step ((first
                    | (go_at_call 59; exact Calls.out_of (specRange_core b off cap ts k t _ (HY.out _).1 (HY.out _).2 HA.out.2.1 hn))
                    | (go_at_call 58; exact Calls.out_of (specInRange_core t.lo (hiN (tbs ts) k) x.row (hasN (tbs ts) k) _)))))
                  refine wpQuiet_nil ?_
                  rintro wz ⟨⟨wx', hbz'⟩, rfl⟩
                  have hbw : Below w.heap.size w wz := hbmx.trans (hbz'.mono (by omega))
                  have hbw2 : Below wr_1.heap.size wr_1 wz := hbm.trans (hbz'.mono (by omega))
                  cases hin : inR t.lo (hasN (tbs ts) k) (hiN (tbs ts) k) x.row
                  · have H : Hid (¬ GoodS (tbs ts)) := fun q => by
                      have h3 := (rowsIn_mem (goodS_at q HA.out.2.1).rows (List.mem_of_getElem? HRr.out.2.1)).2 x (List.mem_of_getElem? HXx.out)
                      have h4 : inR t.lo (hasN (tbs ts) k) (hiN (tbs ts) k) x.row = true := h3
                      rw [hin] at h4
                      cases h4
                    go_wp2_with fail
                    go_ret
                    exact ⟨_, rfl, iffF H.out, hbw⟩
                  · have H : Hid (∀ e ∈ r.es.take (m + 1), inR t.lo (hasN (tbs ts) k) (hiN (tbs ts) k) e.row = true) := fun y hy => by
                      rcases mem_take_succ HXx.out hy with h | rfl
                      · exact HMm.out y h
                      · exact hin
                    go_wp2_with fail
                    go_roundw
                    case rel => exact ⟨m + 1, by omega, by go_num, H.out, hbw2⟩
                    case measure => go_light; simp [intOf]; omega
                · have zm : ¬ (m : Int) < (r.es.length : Int) := by omega
                  have H : Hid (∀ x ∈ t.l.take (j + 1), x.es ≠ [] ∧ ∀ e ∈ x.es, inR t.lo (hasN (tbs ts) k) (hiN (tbs ts) k) e.row = true) := fun y hy => by
                    rcases mem_take_succ HRr.out.2.1 hy with h | rfl
                    · exact HJ.out y h
                    · refine ⟨fun q => HM.out (by rw [q]; rfl), fun e he => HMm.out e ?_⟩
                      rw [List.take_of_length_le (by omega)]; exact he
                  go_wp2_with fail
                  go_roundw
                  case rel => exact ⟨j + 1, by omega, by go_num, H.out, hbmj⟩
                  case measure => go_light; simp [intOf]; omega
            · have zj : ¬ (j : Int) < (t.l.length : Int) := by omega
              have H : Hid (∀ j t, j < k + 1 → ts[j]? = some t → GoodT (tbs ts) j t.tb) := fun i u hi hu => by
                by_cases hjk : i < k
                · exact HV.out i u hjk hu
                · have : i = k := by omega
                  subst this
                  rw [HA.out.2.1] at hu
                  cases hu
                  refine ⟨?_, fun q hq0 hq => ?_, HG.out, rowsIn_of (fun r hr => HJ.out r (by rw [List.take_of_length_le (by omega)]; exact hr))⟩
                  · have := HL.out
                    show t.lo.size ≤ 64
                    omega
                  · rw [tbs_get, HP.out (by omega)] at hq
                    cases hq
                    exact HLO.out
              go_wp2_with fail
              go_roundw
              case rel => exact ⟨k + 1, by omega, by go_num, H.out, hbjz⟩
              case measure => go_light; simp [intOf]; omega
    · have zk : ¬ (k : Int) < (ts.length : Int) := by omega
      have H : Hid (GoodS (tbs ts)) := goodS_of (by omega) (by omega) HF.out (fun i t ht => HV.out i t (by have := (List.getElem?_eq_some_iff.1 ht).1; omega) ht)
      go_wp2_with fail
      go_ret
      exact ⟨_, rfl, iffT H.out, hbx⟩
theorem specValidStore_core (b off cap : Nat) (ts : List Tm) (w : World) (h : TmsAt w b off ts) (hok : okTs ts) (hB : b < w.heap.size) (hn : ts.length ≤ 1048576) :
    Calls Try.prog 22 #[.agg #[.slice (some ⟨b, off, none⟩) ts.length cap]] w fun e w' =>
      ∃ r : Bool, e = .returned (.bool r) ∧ (r = true ↔ GoodS (tbs ts)) ∧ Below w.heap.size w w' := specValidStore_say b off cap ts w h hok hB hn
end Go.Proofs.Ytlgeffinhbodeaf

/-
  spec.MergeStore.
-/
namespace Go.Proofs.Ytlgeffinhbodeaf
open Go.ChangeShapes Go.WideShapes Go.ChangeAt Go.RowKit Go.Deep
set_option linter.unusedVariables false
set_option linter.unusedSimpArgs false
set_option maxRecDepth 100000

/-- A store of the call's own, laid into the result's variable. -/
theorem st_in {w w3 : World} {base R : Nat} {v : Value} {xs : List Tx} (hR : w.heap.size ≤ R) (hRl : R < base) (h : OwnSt w3 base v xs) (hb : Below w.heap.size w w3) :
    ∃ va vn vc, v = .slice va vn vc ∧ CpSPost w (xs.map Tx.tb) (.returned (.agg #[.slice va vn vc])) (w3.setCell ⟨R, 0, none⟩ (.slice va vn vc)) := by
  obtain ⟨va, vn, vc, rfl⟩ : ∃ va vn vc, v = .slice va vn vc := by
    rcases h.row with ⟨_, a, c, q⟩ | ⟨g, cp, q, _⟩ <;> exact ⟨_, _, _, q⟩
  refine ⟨va, vn, vc, rfl, _, xs, rfl, ?_, rfl, hb.setCell hR _⟩
  have h5 := h.chg (Chg.of_set w3 R 0 (.slice va vn vc) (S := fun k => k = R) rfl) (fun k hk _ q => by omega)
  exact h5.mono (by omega)
theorem trow_mono {w : World} {base base' : Nat} {v : Value} {ts : List Tx} (h : OwnTRow w base v ts) (hb : base' ≤ base) : OwnTRow w base' v ts := by
  rcases h with h | ⟨g, cp, hv, hO⟩
  · exact .inl h
  · exact .inr ⟨g, cp, hv, row_mono hO hb⟩
/-- A copied row of runs. -/
structure CopyO (w : World) (base : Nat) (v : Value) (rs : List Rw) (ess : List (List Ent)) : Prop where
  row : w.ownsRow base 101 1 v (rs.map Rw.u).length (rs.map Rw.u)
  ents : ∀ r ∈ rs, OwnK w base r
  same : rs.map Rw.es = ess
theorem CopyO.below {w w' : World} {base : Nat} {v : Value} {rs : List Rw} {ess : List (List Ent)} (h : CopyO w base v rs ess) (hb : Below w.heap.size w w') : CopyO w' base v rs ess :=
  ⟨row_below h.row hb, fun r hr => (h.ents r hr).below hb, h.same⟩
theorem CopyO.mono {w : World} {base base' : Nat} {v : Value} {rs : List Rw} {ess : List (List Ent)} (h : CopyO w base v rs ess) (hb : base' ≤ base) : CopyO w base' v rs ess :=
  ⟨row_mono h.row hb, fun r hr => (h.ents r hr).mono hb, h.same⟩
/-- Two of them, one behind the other. -/
theorem CopyO.cat {w w' : World} {base : Nat} {v v2 v' : Value} {rs rs2 : List Rw} {e1 e2 : List (List Ent)} (h : CopyO w base v rs e1) (h2 : CopyO w base v2 rs2 e2) (hA : AppR w w' base v v' (rs.map Rw.u) (rs2.map Rw.u)) : CopyO w' base v' (rs ++ rs2) (e1 ++ e2) := by
  have hkk : ∀ x : Rw, OwnK w base x → OwnK w' base x := fun x hx => by
    refine hx.kept hA.grown (fun k' hk' q => ?_)
    rcases hx with ⟨h0, _⟩ | ⟨g2, cp2, h1, _, hE⟩
    · rw [h0] at hk'; cases hk'
    · rw [h1] at hk'
      have e3 : g2 = k' := Option.some.inj hk'
      subst e3
      exact own_apart h.row hE (by decide) _ q rfl
  refine ⟨by rw [List.map_append]; exact hA.row, fun r hr => ?_, by rw [List.map_append, h.same, h2.same]⟩
  rcases List.mem_append.1 hr with q | q
  · exact hkk r (h.ents r q)
  · exact hkk r (h2.ents r q)
theorem CopyO.ts {w : World} {base : Nat} {v : Value} {rs : List Rw} {ess : List (List Ent)} (h : CopyO w base v rs ess) (lo : ByteArray) : OwnTs w base [⟨lo, v, rs⟩] := by
  refine ⟨fun t ht => ?_, fun t ht => ?_⟩
  all_goals
    simp at ht
    subst ht
  · exact OwnRow.of h.row rfl
  · exact h.ents
/-- What MergeStore of spec hands back. -/
def MgSPost (w : World) (tb : List Tb) (row : ByteArray) (e : Ending) (w' : World) : Prop := ∃ out, MrgT tb row out ∧ CpSPost w out e w'

end Go.Proofs.Ytlgeffinhbodeaf

/-
  spec.l7Runs: the parts of runs whose rows are in a range, without the empty ones.
-/
namespace Go.Proofs.Ytlgeffinhbodeaf
open Go.ChangeShapes Go.WideShapes Go.ChangeAt Go.RowKit Go.Deep
set_option linter.unusedVariables false
set_option linter.unusedSimpArgs false
set_option maxRecDepth 100000

def keepP (lo : ByteArray) (hh : Bool) (hi : ByteArray) (ess : List (List Ent)) : List (List Ent) := (ess.map (inP lo hh hi)).filter fun e => decide (0 < e.length)
theorem keepP_yes {lo hi : ByteArray} {hh : Bool} {l : List Rm} {k : Nat} {r : Rm} (h : l[k]? = some r) (hx : 0 < (inP lo hh hi r.es).length) : keepP lo hh hi (esM (l.take (k + 1))) = keepP lo hh hi (esM (l.take k)) ++ [inP lo hh hi r.es] := by
  unfold keepP esM
  rw [List.take_add_one, h, List.map_append, List.map_append, List.filter_append]
  simp [hx]
theorem keepP_no {lo hi : ByteArray} {hh : Bool} {l : List Rm} {k : Nat} {r : Rm} (h : l[k]? = some r) (hx : ¬ 0 < (inP lo hh hi r.es).length) : keepP lo hh hi (esM (l.take (k + 1))) = keepP lo hh hi (esM (l.take k)) := by
  unfold keepP esM
  rw [List.take_add_one, h, List.map_append, List.map_append, List.filter_append]
  have : decide (0 < (inP lo hh hi r.es).length) = false := decide_eq_false hx
  simp only [Option.toList_some, List.map_cons, List.map_nil, List.filter_cons, this, List.filter_nil]
  simp
theorem keepP_len (lo hi : ByteArray) (hh : Bool) (l : List Rm) (k : Nat) : (keepP lo hh hi (esM (l.take k))).length ≤ l.length := by
  unfold keepP esM
  have h1 := List.length_filter_le (fun e : List Ent => decide (0 < e.length)) (((l.take k).map Rm.es).map (inP lo hh hi))
  rw [List.length_map, List.length_map, List.length_take] at h1
  omega
def SpRPost (w : World) (ess : List (List Ent)) (e : Ending) (w' : World) : Prop := ∃ g cp rs, e = .returned (.slice (some ⟨g, 0, none⟩) rs.length cp) ∧ CopyO w' w.heap.size (.slice (some ⟨g, 0, none⟩) rs.length cp) rs ess ∧ Below w.heap.size w w'
theorem CopyO.snoc {w w2 w3 : World} {base : Nat} {v v' : Value} {rs : List Rw} {ess : List (List Ent)} {g' cp' : Nat} {es : List Ent} (h : CopyO w base v rs ess) (hb : Below w.heap.size w w2) (hO : OwnE w2 base g' cp' es)
    (hA : AppR w2 w3 base v v' (rs.map Rw.u) [.slice (some ⟨g', 0, none⟩) es.length cp']) : CopyO w3 base v' (rs ++ [⟨.slice (some ⟨g', 0, none⟩) es.length cp', es, some g'⟩]) (ess ++ [es]) := by
  have h2 := h.below hb
  have hkk : ∀ x : Rw, OwnK w2 base x → OwnK w3 base x := fun x hx => by
    refine hx.kept hA.grown (fun k' hk' q => ?_)
    rcases hx with ⟨h0, _⟩ | ⟨g2, cp2, h1, _, hE⟩
    · rw [h0] at hk'; cases hk'
    · rw [h1] at hk'
      have e3 : g2 = k' := Option.some.inj hk'
      subst e3
      exact own_apart h2.row hE (by decide) _ q rfl
  refine ⟨by rw [List.map_append]; exact hA.row, fun r hr => ?_, by rw [List.map_append, h.same]; rfl⟩
  rcases List.mem_append.1 hr with q | q
  · exact hkk r (h2.ents r q)
  · simp at q
    subst q
    exact hkk _ (.inr ⟨g', cp', rfl, rfl, hO⟩)

set_option maxHeartbeats 4000000 in
theorem specRuns_core (v : Value) (l : List Rm) (lo hi : ByteArray) (hh : Bool) (w : World) (h : InRms w v l) (hn : l.length ≤ 1048576) (ht : ∀ r ∈ l, r.es.length ≤ 1048576) :
    Calls Try.prog 25 #[v, .agg #[.string lo, .bool hh, .string hi]] w fun e w' => SpRPost w (keepP lo hh hi (esM l)) e w' := by
  obtain ⟨ad, vc, rfl, hcell⟩ := h.shape
  have HA : Hid (∀ (i : Nat) (r : Rm), l[i]? = some r → ∃ b off, ad = some ⟨b, off, none⟩ ∧ b < w.heap.size ∧ RmsAt w b off l) := hcell
  clear h hcell
  obtain ⟨Wa, hWa⟩ : ∃ Wa : World, Wa = (w.alloc (Obj.cells #[.string lo, .bool hh, .string hi] 63)).alloc (Obj.cells #[] 101) := ⟨_, rfl⟩
  have hba : Below w.heap.size w Wa := by rw [hWa]; exact ((Below.refl _ _).alloc (Nat.le_refl _) _).alloc (by simp) _
  have hza : Wa.heap.size = w.heap.size + 1 + 1 := by rw [hWa]; simp
  have HO0 : Hid (CopyO Wa (w.heap.size + 1) (.slice (some ⟨w.heap.size + 1, 0, none⟩) 0 0) [] []) := by
    have h1 := ownR_empty (w.alloc (Obj.cells #[.string lo, .bool hh, .string hi] 63)) (w.heap.size + 1) (by simp)
    rw [← hWa, show (w.alloc (Obj.cells #[.string lo, .bool hh, .string hi] 63)).heap.size = w.heap.size + 1 by simp] at h1
    exact ⟨h1, fun r hr => by simp at hr, rfl⟩
  have HC : Hid (∀ wx, Below (w.heap.size + 1) Wa wx → wx.cell? ⟨w.heap.size, 0, none⟩ = some (.string lo) ∧ wx.cell? ⟨w.heap.size, 1, none⟩ = some (.bool hh) ∧ wx.cell? ⟨w.heap.size, 2, none⟩ = some (.string hi) ∧ Below w.heap.size w wx) := by
    intro wx hx
    refine ⟨?_, ?_, ?_, hba.trans (hx.mono (by omega))⟩
    · rw [hx.cell (p := ⟨w.heap.size, 0, none⟩) (by show w.heap.size < w.heap.size + 1; omega), hWa]; simp [go_sem]
    · rw [hx.cell (p := ⟨w.heap.size, 1, none⟩) (by show w.heap.size < w.heap.size + 1; omega), hWa]; simp [go_sem]
    · rw [hx.cell (p := ⟨w.heap.size, 2, none⟩) (by show w.heap.size < w.heap.size + 1; omega), hWa]; simp [go_sem]
  have HT : Hid (∀ r ∈ l, r.es.length ≤ 1048576) := ht
  clear ht
  go_enter Try.func25, Try.ntmps25
  go_wp2_with fail
  rw [← hWa]
  clear hWa
  go_loopw [5, 6] (fun o i wr => ∃ (k g cp : Nat) (rs : List Rw), k ≤ l.length ∧ i = .int .i64 k ∧ o = .slice (some ⟨g, 0, none⟩) rs.length cp ∧ CopyO wr (w.heap.size + 1) (.slice (some ⟨g, 0, none⟩) rs.length cp) rs (keepP lo hh hi (esM (l.take k))) ∧ Below (w.heap.size + 1) Wa wr) (fun _ i _ => l.length - (intOf i).toNat)
  case atStart => exact ⟨0, w.heap.size + 1, 0, [], Nat.zero_le _, rfl, rfl, HO0.out, Below.refl _ _⟩
  case round =>
    obtain ⟨k, g, cp, rs, hk, rfl, rfl, hC, hb⟩ := hrel
    have HR : Hid (CopyO wr (w.heap.size + 1) (.slice (some ⟨g, 0, none⟩) rs.length cp) rs (keepP lo hh hi (esM (l.take k)))) := hC
    have hrl : rs.length ≤ 1048576 := by
      have h1 := congrArg List.length hC.same
      rw [List.length_map] at h1
      have h2 := keepP_len lo hi hh l k
      omega
    have hsz := hb.size
    clear hC
    by_cases hlt : k < l.length
    · obtain ⟨r, hr⟩ : ∃ r, l[k]? = some r := ⟨_, List.getElem?_eq_getElem hlt⟩
      obtain ⟨b, off, rfl, hB, hat⟩ := HA.out k r hr
      have HD : Hid (l[k]? = some r ∧ r.es.length ≤ 1048576) := ⟨hr, HT.out r (List.mem_of_getElem? hr)⟩
      have HK : Hid (∀ wx, Below (w.heap.size + 1) Wa wx → (wx.cell? ⟨w.heap.size, 0, none⟩ = some (.string lo) ∧ wx.cell? ⟨w.heap.size, 1, none⟩ = some (.bool hh) ∧ wx.cell? ⟨w.heap.size, 2, none⟩ = some (.string hi) ∧ wx.cell? ⟨b, off + k, none⟩ = some (.slice (some ⟨r.b, r.off, none⟩) r.es.length r.cap)) ∧ r.at wx) := by
        intro wx hx
        obtain ⟨p0, p1, p2, p3⟩ := HC.out wx hx
        obtain ⟨p4, p5⟩ := (hat.below p3 hB) k r hr
        exact ⟨⟨p0, p1, p2, p4⟩, p5⟩
      clear hr hat
      have zk : (k : Int) < (l.length : Int) := by omega
      have hS : (fun w' : World => w'.cell? ⟨w.heap.size, 0, none⟩ = some (.string lo) ∧ w'.cell? ⟨w.heap.size, 1, none⟩ = some (.bool hh) ∧ w'.cell? ⟨w.heap.size, 2, none⟩ = some (.string hi) ∧ w'.cell? ⟨b, off + k, none⟩ = some (.slice (some ⟨r.b, r.off, none⟩) r.es.length r.cap)) wr.drew := (HK.out wr.drew hb.drew).1
      go_upto_region 5 with fail
      refine wp_region_T 7 (fun w' : World => w'.cell? ⟨w.heap.size, 0, none⟩ = some (.string lo) ∧ w'.cell? ⟨w.heap.size, 1, none⟩ = some (.bool hh) ∧ w'.cell? ⟨w.heap.size, 2, none⟩ = some (.string hi) ∧ w'.cell? ⟨b, off + k, none⟩ = some (.slice (some ⟨r.b, r.off, none⟩) r.es.length r.cap)) (by kernel_rfl) ?_
      refine anyT_take (i := 0) (v := ?vr0x1) rfl (by kernel_rfl) (by kernel_rfl) (by kernel_rfl) (by kernel_rfl) (by decide) (fun _ _ _ h => h) (Or.inl ⟨by rfl, ?yr0x1⟩) hS ?_
      case yr0x1 => (intro wz hSw; (try dsimp only at hSw); go_simp; (try with_reducible rfl))
      try simp only [Act.put, List.setIfInBounds_toArray, List.set_cons_zero, List.set_cons_succ]
      refine anyT_take (i := 1) (v := ?vr1x2) rfl (by kernel_rfl) (by kernel_rfl) (by kernel_rfl) (by kernel_rfl) (by decide) (fun _ _ _ h => h) (Or.inl ⟨by rfl, ?yr1x2⟩) hS ?_
      case yr1x2 => (intro wz hSw; (try dsimp only at hSw); go_simp; (try with_reducible rfl))
      try simp only [Act.put, List.setIfInBounds_toArray, List.set_cons_zero, List.set_cons_succ]
      refine anyT_take (i := 2) (v := ?vr2x3) rfl (by kernel_rfl) (by kernel_rfl) (by kernel_rfl) (by kernel_rfl) (by decide) (fun _ _ _ h => h) (Or.inl ⟨by rfl, ?yr2x3⟩) hS ?_
      case yr2x3 => (intro wz hSw; (try dsimp only at hSw); go_simp; (try with_reducible rfl))
      try simp only [Act.put, List.setIfInBounds_toArray, List.set_cons_zero, List.set_cons_succ]
      refine anyT_take (i := 3) (v := ?vr3x4) rfl (by kernel_rfl) (by kernel_rfl) (by kernel_rfl) (by kernel_rfl) (by decide) (fun _ _ _ h => h) (Or.inl ⟨by rfl, ?yr3x4⟩) hS ?_
      case yr3x4 => (intro wz hSw; (try dsimp only at hSw); go_simp; (try with_reducible rfl))
      try simp only [Act.put, List.setIfInBounds_toArray, List.set_cons_zero, List.set_cons_succ]
      refine anyT_take (i := 4) (v := ?vr4x5) rfl (by kernel_rfl) (by kernel_rfl) (by kernel_rfl) (by kernel_rfl) (by decide) (fun _ _ _ h => h) (Or.inl ⟨by rfl, ?yr4x5⟩) hS ?_
      case yr4x5 => (intro wz hSw; (try dsimp only at hSw); go_simp; (try with_reducible rfl))
      try simp only [Act.put, List.setIfInBounds_toArray, List.set_cons_zero, List.set_cons_succ]
      refine anyT_take (i := 5) (v := ?vr5x6) rfl (by kernel_rfl) (by kernel_rfl) (by kernel_rfl) (by kernel_rfl) (by decide) (fun _ _ _ h => h) (Or.inl ⟨by rfl, ?yr5x6⟩) hS ?_
      case yr5x6 => (intro wz hSw; (try dsimp only at hSw); go_simp; (try with_reducible rfl))
      try simp only [Act.put, List.setIfInBounds_toArray, List.set_cons_zero, List.set_cons_succ]
      refine anyT_one (i := 6) (by kernel_rfl) rfl (fun K hK => ?_)
      go_simp
      go_at_call 61
      refine (specPart_core r lo hi hh _ (HK.out wr.drew hb.drew).2 HD.out.2).mono ?_
      rintro e v1 ⟨g1, cp1, rfl, hO1, hb1⟩
      have k1 : Below (w.heap.size + 1) Wa v1 := hb.drew.trans (hb1.mono (by have := hb.drew.size; omega))
      have kr1 : Below wr.heap.size wr v1 := ((Below.refl _ _).drew).trans (hb1.mono (by simp))
      have HO1 : Hid (OwnE v1 wr.heap.size g1 cp1 (inP lo hh hi r.es)) := hO1.mono (by simp)
      obtain ⟨fs, hfs⟩ : ∃ fs, fs = inP lo hh hi r.es := ⟨_, rfl⟩
      have HFS : Hid (fs = inP lo hh hi r.es) := hfs
      rw [← hfs] at HO1 ⊢
      have hfl : fs.length ≤ 1048576 := by
        rw [hfs]
        exact Nat.le_trans (List.length_filter_le ..) HD.out.2
      refine hK.out _ _ (.inr (HK.out v1 k1).1) ?_
      clear hK hO1 hb1 hfs
      try simp only [Act.put, List.setIfInBounds_toArray, List.set_cons_zero, List.set_cons_succ]
      refine anyT_one (i := 7) (by kernel_rfl) rfl (fun K hK => ?_)
      go_simp
      refine hK.out _ _ (.inl rfl) ?_
      clear hK
      try simp only [Act.put, List.setIfInBounds_toArray, List.set_cons_zero, List.set_cons_succ]
      refine anyT_done (by kernel_rfl) ?_
      have s1 := kr1.size
      by_cases hp : 0 < fs.length
      · have zp : (0 : Int) < (fs.length : Int) := by omega
        obtain ⟨W2, hW2⟩ : ∃ W2 : World, W2 = v1.alloc (Obj.cells #[.slice (some ⟨g1, 0, none⟩) fs.length cp1] 101) := ⟨_, rfl⟩
        have hb2 : Below v1.heap.size v1 W2 := by rw [hW2]; exact (Below.refl _ _).alloc (Nat.le_refl _) _
        have kr2 : Below wr.heap.size wr W2 := kr1.trans (hb2.mono s1)
        have HR2 : Hid (W2.ownsRow (w.heap.size + 1) 101 1 (.slice (some ⟨g, 0, none⟩) rs.length cp) (rs.map Rw.u).length (rs.map Rw.u)) := (HR.out.below kr2).row
        have HN1 : Hid (∀ j u, [Value.slice (some ⟨g1, 0, none⟩) fs.length cp1][j]? = some u → W2.cell? ⟨v1.heap.size, 0 + j, none⟩ = some u) := by rw [hW2]; exact one_cell_new
        have s2 := hb2.size
        go_wp2_with (at_builtin; rw [← hW2]; refine wpList_append_runO _ rfl _ _ rfl (w.heap.size + 1) (.slice (some ⟨g, 0, none⟩) rs.length cp) (rs.map Rw.u) v1.heap.size 0 1 1 [.slice (some ⟨g1, 0, none⟩) fs.length cp1] rfl rfl rfl HR2.out HN1.out ?h1 ?hl ?hb ?_)
        case h1 => rfl
        case hl => omega
        case hb => omega
        intro v' w3 hA3
        obtain ⟨g3, cp3, rfl⟩ := hA3.form (by intro q; cases q)
        have hA4 : AppR W2 w3 (w.heap.size + 1) (.slice (some ⟨g, 0, none⟩) rs.length cp) (.slice (some ⟨g3, 0, none⟩) (rs.map Rw.u ++ [Value.slice (some ⟨g1, 0, none⟩) fs.length cp1]).length cp3) (rs.map Rw.u) [.slice (some ⟨g1, 0, none⟩) fs.length cp1] := by rw [hW2]; exact hA3
        have hz : (rs.map Rw.u ++ [Value.slice (some ⟨g1, 0, none⟩) fs.length cp1]).length = rs.length + 1 := by simp
        rw [hz] at hA4 ⊢
        have HN : Hid (CopyO w3 (w.heap.size + 1) (.slice (some ⟨g3, 0, none⟩) (rs.length + 1) cp3) (rs ++ [⟨.slice (some ⟨g1, 0, none⟩) fs.length cp1, fs, some g1⟩]) (keepP lo hh hi (esM (l.take (k + 1)))) ∧ Below (w.heap.size + 1) Wa w3) := by
          have h1 := HR.out.snoc kr2 ((HO1.out.mono (by omega)).below hb2 HO1.out.lt.2) hA4
          have e1 : keepP lo hh hi (esM (l.take k)) ++ [fs] = keepP lo hh hi (esM (l.take (k + 1))) := by
            rw [keepP_yes HD.out.1 (by rw [← HFS.out]; exact hp), ← HFS.out]
          rw [e1] at h1
          exact ⟨h1, (k1.trans (hb2.mono (by omega))).grown hA4.grown (by omega) (fun j hj => row_blk HR2.out j hj)⟩
        clear hA3 hA4 hz hW2
        go_wp2_with fail
        go_roundw
        case rel =>
          go_light
          exact ⟨k + 1, g3, cp3, rs ++ [⟨.slice (some ⟨g1, 0, none⟩) fs.length cp1, fs, some g1⟩], by omega, by go_num, by simp, by rw [List.length_append]; exact HN.out.1, HN.out.2⟩
        case measure => go_light; simp [intOf]; omega
      · have zp : ¬ (0 : Int) < (fs.length : Int) := by omega
        have HN : Hid (CopyO v1 (w.heap.size + 1) (.slice (some ⟨g, 0, none⟩) rs.length cp) rs (keepP lo hh hi (esM (l.take (k + 1))))) := by
          rw [keepP_no HD.out.1 (by rw [← HFS.out]; exact hp)]
          exact HR.out.below kr1
        go_wp2_with fail
        go_roundw
        case rel =>
          go_light
          exact ⟨k + 1, g, cp, rs, by omega, by go_num, rfl, HN.out, k1⟩
        case measure => go_light; simp [intOf]; omega
    · have zk : ¬ (k : Int) < (l.length : Int) := by omega
      have H : Hid (CopyO wr w.heap.size (.slice (some ⟨g, 0, none⟩) rs.length cp) rs (keepP lo hh hi (esM l))) := by
        have h1 := HR.out
        rw [List.take_of_length_le (by omega)] at h1
        exact h1.mono (by omega)
      go_wp2_with fail
      go_ret
      exact ⟨g, cp, rs, rfl, H.out, hba.trans (hb.mono (by omega))⟩
end Go.Proofs.Ytlgeffinhbodeaf

/-
  SplitStore as lists.
-/
namespace Go.Proofs.Ytlgeffinhbodeaf
open Go.ChangeShapes Go.WideShapes Go.ChangeAt Go.RowKit Go.Deep
set_option linter.unusedVariables false

def cutT (ts : List Tb) (i : Nat) (a : Tb) (row : ByteArray) : List Tb :=
  ts.take i ++ [⟨a.lo, keepP ⟨#[]⟩ true row a.rs⟩, ⟨row, keepP row false ⟨#[]⟩ a.rs⟩] ++ ts.drop (i + 1)
/-- What SplitStore makes of a store. -/
structure SplT (ts : List Tb) (row : ByteArray) (out : List Tb) : Prop where
  bad : ¬ GoodS ts → out = ts
  long : 64 < row.size → out = ts
  full : ts.length = 100 → out = ts
  same : GoodS ts → ∀ i a, HoldAt ts row i → ts[i]? = some a → a.lo = row → out = ts
  done : GoodS ts → row.size ≤ 64 → ts.length ≠ 100 → ∀ i a, HoldAt ts row i → ts[i]? = some a → a.lo ≠ row → out = cutT ts i a row
theorem splT_uniq {ts : List Tb} {row : ByteArray} {o1 o2 : List Tb} (h : SplT ts row o1) (k : SplT ts row o2) : o1 = o2 := by
  by_cases hg : GoodS ts
  · by_cases hl : 64 < row.size
    · rw [h.long hl, k.long hl]
    · by_cases hf : ts.length = 100
      · rw [h.full hf, k.full hf]
      · obtain ⟨i, hi⟩ := hold_ex hg row
        have ha := List.getElem?_eq_getElem hi.1
        by_cases hs : (ts[i]'hi.1).lo = row
        · rw [h.same hg i _ hi ha hs, k.same hg i _ hi ha hs]
        · rw [h.done hg (by omega) hf i _ hi ha hs, k.done hg (by omega) hf i _ hi ha hs]
  · rw [h.bad hg, k.bad hg]
theorem splT_bad {ts : List Tb} {row : ByteArray} (h : ¬ GoodS ts) : SplT ts row ts := ⟨fun _ => rfl, fun _ => rfl, fun _ => rfl, fun q => absurd q h, fun q => absurd q h⟩
theorem splT_long {ts : List Tb} {row : ByteArray} (h : 64 < row.size) : SplT ts row ts := ⟨fun _ => rfl, fun _ => rfl, fun _ => rfl, fun _ _ _ _ _ _ => rfl, fun _ q => by omega⟩
theorem splT_full {ts : List Tb} {row : ByteArray} (h : ts.length = 100) : SplT ts row ts := ⟨fun _ => rfl, fun _ => rfl, fun _ => rfl, fun _ _ _ _ _ _ => rfl, fun _ _ q => absurd h q⟩
theorem splT_same {ts : List Tb} {row : ByteArray} {i : Nat} {a : Tb} (hi : HoldAt ts row i) (ha : ts[i]? = some a) (hs : a.lo = row) : SplT ts row ts := by
  refine ⟨fun _ => rfl, fun _ => rfl, fun _ => rfl, fun _ _ _ _ _ _ => rfl, fun _ _ _ j b hj hb hne => ?_⟩
  have := hold_uniq hi hj
  subst this
  rw [ha] at hb
  cases hb
  exact absurd hs hne
theorem splT_done {ts : List Tb} {row : ByteArray} {i : Nat} {a : Tb} (hg : GoodS ts) (hl : row.size ≤ 64) (hf : ts.length ≠ 100) (hi : HoldAt ts row i) (ha : ts[i]? = some a) (hs : a.lo ≠ row) : SplT ts row (cutT ts i a row) := by
  refine ⟨fun q => absurd hg q, fun q => by omega, fun q => absurd q hf, fun _ j b hj hb he => ?_, fun _ _ _ j b hj hb hne => ?_⟩
  all_goals
    have := hold_uniq hi hj
    subst this
    rw [ha] at hb
    cases hb
  · exact absurd he hs
  · rfl
/-- The empty row is the first tablet's. -/
theorem splT_empty {ts : List Tb} {row : ByteArray} (hg : GoodS ts) (hr : row.size = 0) : SplT ts row ts := by
  obtain ⟨i, hi⟩ := hold_ex hg row
  have h0 : 0 < ts.length := by have := hg.ne; omega
  obtain ⟨a, h1⟩ : ∃ a, ts[0]? = some a := ⟨_, List.getElem?_eq_getElem h0⟩
  have h2 := hg.first _ h1
  have e0 : ∀ x : ByteArray, x.size = 0 → x = ⟨#[]⟩ := fun x hx => by
    cases x with
    | mk d => congr 1; exact Array.eq_empty_of_size_eq_zero hx
  have hi0 : i = 0 := by
    by_cases hz : i = 0
    · exact hz
    · obtain ⟨b, h3⟩ : ∃ b, ts[1]? = some b := ⟨_, List.getElem?_eq_getElem (show 1 < ts.length by have := hi.1; omega)⟩
      have h4 := (hi.2 1 _ h3).1 (by omega)
      have h5 := (hg.tabs 1 _ h3).up _ (by omega) h1
      rw [e0 _ h2] at h5
      rw [e0 _ hr] at h4
      rw [h4] at h5
      cases h5
  subst hi0
  exact splT_same hi h1 (by rw [e0 _ h2, e0 _ hr])
end Go.Proofs.Ytlgeffinhbodeaf

