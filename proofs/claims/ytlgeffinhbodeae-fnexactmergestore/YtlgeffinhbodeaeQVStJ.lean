/-
  impl.ValidStore.
-/
import Derived.Test.YtlgeffinhbodeaeQVStI
namespace Go.Proofs.Ytlgeffinhbodeae
open Go.ChangeShapes Go.WideShapes Go.ChangeAt Go.RowKit Go.Deep
set_option linter.unusedVariables false
set_option linter.unusedSimpArgs false
set_option maxRecDepth 100000

/-- A call tells whether 'P'. -/
def SayB (P : Prop) (w : World) (e : Ending) (w' : World) : Prop := ∃ r : Bool, e = .returned (.bool r) ∧ (r = true ↔ P) ∧ Below w.heap.size w w'
theorem bool_ex (P : Prop) : ∃ r : Bool, (r = true ↔ P) := by
  classical
  exact ⟨decide P, by simp⟩
theorem validRuns_det (t : Tm) (lo hi : ByteArray) (hh : Bool) (w : World) (ht : t.at w) (hok : OkTm t) (R : Bool) (hR : R = true ↔ GoodRs (esM t.l) ∧ RowsIn lo hh hi (esM t.l)) :
    Calls Try.prog 116 #[.agg #[.string t.lo, .slice (some ⟨t.b, t.off, none⟩) t.l.length t.cap], .agg #[.string lo, .bool hh, .string hi]] w fun e w' =>
      e = .returned (.bool R) ∧ Below w.heap.size w w' :=
  (validRuns_core t lo hi hh w ht hok).mono fun e w' ⟨r, h1, h2, h3⟩ => by
    have : r = R := by rw [Bool.eq_iff_iff, h2, hR]
    subst this
    exact ⟨h1, h3⟩
theorem size_empty {b : ByteArray} : b.toList.isEmpty = true ↔ b.size = 0 := by rw [isE]; exact decide_eq_true_iff

set_option maxHeartbeats 8000000 in
theorem implValidStore_say (b off cap : Nat) (ts : List Tm) (w : World) (h : TmsAt w b off ts) (hok : okTs ts) (hB : b < w.heap.size) (hn : ts.length ≤ 1048576) :
    Calls Try.prog 78 #[.agg #[.slice (some ⟨b, off, none⟩) ts.length cap]] w fun e w' => SayB (GoodS (tbs ts)) w e w' := by
  obtain ⟨W0, hW0⟩ : ∃ W0 : World, W0 = w.alloc (Obj.cells #[.slice (some ⟨b, off, none⟩) ts.length cap] 66) := ⟨_, rfl⟩
  have hb0 : Below w.heap.size w W0 := by rw [hW0]; exact (Below.refl _ _).alloc (Nat.le_refl _) _
  have hz0 : W0.heap.size = w.heap.size + 1 := by rw [hW0]; simp
  have HC : Hid (∀ wx, Below W0.heap.size W0 wx → wx.cell? ⟨w.heap.size, 0, none⟩ = some (.slice (some ⟨b, off, none⟩) ts.length cap)) := by
    intro wx hb
    rw [hb.cell (p := ⟨w.heap.size, 0, none⟩) (by show w.heap.size < W0.heap.size; omega), hW0]; simp
  have HT : Hid (TmsAt W0 b off ts ∧ okTs ts) := ⟨h.below hb0 hB, hok⟩
  have hB0 : b < W0.heap.size := by omega
  clear h hok
  by_cases h1 : ts.length = 0
  · have H : Hid (¬ GoodS (tbs ts)) := fun q => by have := q.ne; rw [tbs_len] at this; omega
    have z1 : (ts.length : Int) < 1 := by omega
    clear h1
    go_enter Try.func78, Try.ntmps78
    go_wp2_with fail
    go_ret
    rw [← hW0]
    exact ⟨_, rfl, iffF H.out, hb0⟩
  by_cases h2 : 100 < ts.length
  · have H : Hid (¬ GoodS (tbs ts)) := fun q => by have := q.le; rw [tbs_len] at this; omega
    have z1 : ¬ (ts.length : Int) < 1 := by omega
    have z2 : (100 : Int) < ts.length := by omega
    go_enter Try.func78, Try.ntmps78
    go_wp2_with fail
    go_ret
    rw [← hW0]
    exact ⟨_, rfl, iffF H.out, hb0⟩
  have z1 : ¬ (ts.length : Int) < 1 := by omega
  have z2 : ¬ (100 : Int) < ts.length := by omega
  obtain ⟨t0, ht0⟩ : ∃ t, ts[0]? = some t := ⟨_, List.getElem?_eq_getElem (by omega)⟩
  have c0 := HC.out W0 (Below.refl _ _)
  have d0 := (HT.out.1 0 t0 ht0).1
  rw [Nat.zero_mul, Nat.add_zero] at d0
  have H0 : Hid (ts[0]? = some t0) := ht0
  clear ht0
  cases he : t0.lo.toList.isEmpty
  · have H : Hid (¬ GoodS (tbs ts)) := fun q => by
      have := q.first t0.tb (by rw [tbs_get, H0.out]; rfl)
      have h3 : t0.lo.toList.isEmpty = true := size_empty.2 this
      rw [he] at h3
      cases h3
    go_enter Try.func78, Try.ntmps78
    go_upto_region 1 with fail
    rw [← hW0]
    clear hW0
    go_wp2_with fail
    go_ret
    exact ⟨_, rfl, iffF H.out, hb0⟩
  have HF : Hid (∀ t, ts[0]? = some t → t.lo.size = 0) := fun t ht => by
    rw [H0.out] at ht
    cases ht
    exact size_empty.1 he
  go_enter Try.func78, Try.ntmps78
  go_upto_region 1 with fail
  rw [← hW0]
  clear hW0
  go_wp2_with fail
  clear c0 d0 he
  go_loopw [26] (fun i wr => ∃ (k : Nat), k ≤ ts.length ∧ i = .int .i64 k ∧ (∀ j t, j < k → ts[j]? = some t → GoodT (tbs ts) j t.tb) ∧ Below W0.heap.size W0 wr) (fun i _ => ts.length - (intOf i).toNat)
  case atStart => exact ⟨0, Nat.zero_le _, rfl, fun j t hj => by omega, Below.refl _ _⟩
  case round =>
    obtain ⟨k, hk, rfl, hv, hb⟩ := hrel
    have HV : Hid (∀ j t, j < k → ts[j]? = some t → GoodT (tbs ts) j t.tb) := hv
    have hsz := hb.size
    have hbx := hb0.trans (hb.mono (by omega))
    clear hv
    by_cases hlt : k < ts.length
    · obtain ⟨t, ht⟩ : ∃ t, ts[k]? = some t := ⟨_, List.getElem?_eq_getElem hlt⟩
      obtain ⟨c0, c1, ha⟩ := (HT.out.1.below hb hB0) k t ht
      have HA : Hid (t.at wr ∧ ts[k]? = some t ∧ OkTm t) := ⟨ha, ht, HT.out.2 t (List.mem_of_getElem? ht)⟩
      have hrl : t.l.length ≤ 1048576 := HA.out.2.2.runs
      have hsl : t.lo.size ≤ maxLen := HA.out.2.2.lo
      unfold maxLen at hsl
      clear ha ht
      obtain ⟨W1, hW1⟩ : ∃ W1 : World, W1 = wr.alloc (Obj.cells #[.string t.lo, .slice (some ⟨t.b, t.off, none⟩) t.l.length t.cap] 133) := ⟨_, rfl⟩
      have hbA : Below wr.heap.size wr W1 := by rw [hW1]; exact (Below.refl _ _).alloc (Nat.le_refl _) _
      have hzA : W1.heap.size = wr.heap.size + 1 := by rw [hW1]; simp
      have hbz : Below W0.heap.size W0 W1 := hb.trans (hbA.mono hsz)
      have hbzx : Below w.heap.size w W1 := hb0.trans (hbz.mono (by omega))
      have cR : ∀ n : Out W1, n.u.cell? ⟨wr.heap.size, 0, none⟩ = some (.string t.lo) := fun n => by
        rw [n.out.cell (p := ⟨wr.heap.size, 0, none⟩) (by show wr.heap.size < W1.heap.size; omega), hW1]; simp
      have cU : ∀ n : Out W1, n.u.cell? ⟨wr.heap.size, 1, none⟩ = some (.slice (some ⟨t.b, t.off, none⟩) t.l.length t.cap) := fun n => by
        rw [n.out.cell (p := ⟨wr.heap.size, 1, none⟩) (by show wr.heap.size < W1.heap.size; omega), hW1]; simp
      have cS : ∀ n : Out W1, n.u.cell? ⟨w.heap.size, 0, none⟩ = some (.slice (some ⟨b, off, none⟩) ts.length cap) := fun n => HC.out n.u (hbz.trans (n.out.mono (by omega)))
      have inh : Nonempty (Out W1) := ⟨⟨W1, Below.refl _ _⟩⟩
      have zk : (k : Int) < (ts.length : Int) := by omega
      have hB1 : b < W1.heap.size := by omega
      have HT1 : Hid (TmsAt W1 b off ts) := HT.out.1.below hbz hB0
      by_cases hk0 : k = 0
      · have hg : decide (0 < k) = false := decide_eq_false (by omega)
        have HK : Hid (k = 0) := hk0
        clear hk0
        go_upto_region 6 with fail
        rw [← hW1]
        clear hW1
        refine wp_region_out (by kernel_rfl) (by kernel_rfl) ?_
        repeat (go_big_quiet_step (fail))
        refine wpQuiet_nil ?_
        rintro wy ⟨⟨wx, hby⟩, rfl⟩
        have sy := hby.size
        have hbyx : Below w.heap.size w wy := hbzx.trans (hby.mono (by omega))
        have hbyz : Below W0.heap.size W0 wy := hbz.trans (hby.mono (by omega))
        have cR' : ∀ n : Out wy, n.u.cell? ⟨wr.heap.size, 0, none⟩ = some (.string t.lo) := fun n => cR ⟨n.u, hby.trans (n.out.mono sy)⟩
        have cU' : ∀ n : Out wy, n.u.cell? ⟨wr.heap.size, 1, none⟩ = some (.slice (some ⟨t.b, t.off, none⟩) t.l.length t.cap) := fun n => cU ⟨n.u, hby.trans (n.out.mono sy)⟩
        have cS' : ∀ n : Out wy, n.u.cell? ⟨w.heap.size, 0, none⟩ = some (.slice (some ⟨b, off, none⟩) ts.length cap) := fun n => cS ⟨n.u, hby.trans (n.out.mono sy)⟩
        have inh' : Nonempty (Out wy) := ⟨⟨wy, Below.refl _ _⟩⟩
        have HTy : Hid (∀ n : Out wy, TmsAt n.u b off ts ∧ b < n.u.heap.size ∧ t.at n.u) := fun n => ⟨(HT1.out.below hby hB1).below n.out (by omega), by have := n.out.size; omega, ((HA.out.1.below hbA).below hby).below n.out⟩
        clear cR cU cS
        by_cases hl : 64 < t.lo.size
        · have H : Hid (¬ GoodS (tbs ts)) := fun q => by
            have h3 : t.lo.size ≤ 64 := (goodS_at q HA.out.2.1).size
            omega
          have hd : decide ((64 : Int) < (t.lo.size : Int)) = true := decide_eq_true (by omega)
          clear hl
          go_upto_region 8 with fail
          refine wp_region_out (by kernel_rfl) (by kernel_rfl) ?_
          repeat (go_big_quiet_step (fail))
          refine wpQuiet_nil ?_
          rintro wz ⟨⟨wx', hbz'⟩, rfl⟩
          have hbw : Below w.heap.size w wz := hbyx.trans (hbz'.mono (by omega))
          go_wp2_with fail
          go_ret
          exact ⟨_, rfl, iffF H.out, hbw⟩
        · have hd : decide ((64 : Int) < (t.lo.size : Int)) = false := decide_eq_false (by omega)
          obtain ⟨R, hR⟩ := bool_ex (GoodRs (esM t.l) ∧ RowsIn t.lo (hasN (tbs ts) k) (hiN (tbs ts) k) (esM t.l))
          have HR : Hid (R = true ↔ GoodRs (esM t.l) ∧ RowsIn t.lo (hasN (tbs ts) k) (hiN (tbs ts) k) (esM t.l)) := hR
          have HL : Hid (¬ 64 < t.lo.size) := hl
          clear hR hl
          go_upto_region 8 with fail
          refine wp_region_out (by kernel_rfl) (by kernel_rfl) ?_
          repeat (go_big_quiet_step ((first
            | (go_at_call 117; exact Calls.out_of (rowsIn_core b off cap ts k t _ (HTy.out _).1 (HTy.out _).2.1 HA.out.2.1 hn))
            | (go_at_call 116; exact Calls.out_of (validRuns_det t t.lo (hiN (tbs ts) k) (hasN (tbs ts) k) _ (HTy.out _).2.2 HA.out.2.2 R HR.out)))))
          refine wpQuiet_nil ?_
          rintro wz ⟨⟨wx', hbz'⟩, rfl⟩
          have hbw : Below w.heap.size w wz := hbyx.trans (hbz'.mono (by omega))
          have hbw0 : Below W0.heap.size W0 wz := hbyz.trans (hbz'.mono (by omega))
          cases R
          · have H : Hid (¬ GoodS (tbs ts)) := fun q => by
              have h3 := goodS_at q HA.out.2.1
              exact Bool.noConfusion (HR.out.2 ⟨h3.runs, h3.rows⟩)
            go_wp2_with fail
            go_ret
            exact ⟨_, rfl, iffF H.out, hbw⟩
          · have H : Hid (∀ j t, j < k + 1 → ts[j]? = some t → GoodT (tbs ts) j t.tb) := fun j u hj hu => by
              by_cases hjk : j < k
              · exact HV.out j u hjk hu
              · have : j = k := by omega
                subst this
                rw [HA.out.2.1] at hu
                cases hu
                refine ⟨?_, fun p hp => by have := HK.out; omega, (HR.out.1 rfl).1, (HR.out.1 rfl).2⟩
                have := HL.out
                show t.lo.size ≤ 64
                omega
            go_wp2_with fail
            go_roundw
            case rel => exact ⟨k + 1, by omega, by go_num, H.out, hbw0⟩
            case measure => go_light; simp [intOf]; omega
      · obtain ⟨p, hp⟩ : ∃ p, ts[k - 1]? = some p := ⟨_, List.getElem?_eq_getElem (by omega)⟩
        obtain ⟨p0, p1, p2⟩ := tmsAt_out HT1.out hB1 hp
        clear p1 p2
        have HP : Hid (ts[k - 1]? = some p) := hp
        clear hp
        have hg : decide (0 < k) = true := decide_eq_true (by omega)
        have em : (k : Int) - 1 = ((k - 1 : Nat) : Int) := by omega
        cases hlo : Op.bytesLess p.lo.toList t.lo.toList
        · have hle : (Op.bytesLess t.lo.toList p.lo.toList || t.lo.toList == p.lo.toList) = true := by rw [le_less, hlo]; rfl
          have H : Hid (¬ GoodS (tbs ts)) := fun q => by
            have h3 := (goodS_at q HA.out.2.1).up p.tb (by omega) (by rw [tbs_get, HP.out]; rfl)
            have h4 : Op.bytesLess p.lo.toList t.lo.toList = true := h3
            rw [hlo] at h4
            cases h4
          clear hlo
          go_upto_region 6 with fail
          rw [← hW1]
          clear hW1
          refine wp_region_out (by kernel_rfl) (by kernel_rfl) ?_
          repeat (go_big_quiet_step (fail))
          refine wpQuiet_nil ?_
          rintro wy ⟨⟨wx, hby⟩, rfl⟩
          have hbyx : Below w.heap.size w wy := hbzx.trans (hby.mono (by omega))
          go_wp2_with fail
          go_ret
          exact ⟨_, rfl, iffF H.out, hbyx⟩
        · have HLO : Hid (Op.bytesLess p.lo.toList t.lo.toList = true) := hlo
          have hle : (Op.bytesLess t.lo.toList p.lo.toList || t.lo.toList == p.lo.toList) = false := by rw [le_less, hlo]; rfl
          clear hlo
          go_upto_region 6 with fail
          rw [← hW1]
          clear hW1
          refine wp_region_out (by kernel_rfl) (by kernel_rfl) ?_
          repeat (go_big_quiet_step (fail))
          refine wpQuiet_nil ?_
          rintro wy ⟨⟨wx, hby⟩, rfl⟩
          have sy := hby.size
          have hbyx : Below w.heap.size w wy := hbzx.trans (hby.mono (by omega))
          have hbyz : Below W0.heap.size W0 wy := hbz.trans (hby.mono (by omega))
          have cR' : ∀ n : Out wy, n.u.cell? ⟨wr.heap.size, 0, none⟩ = some (.string t.lo) := fun n => cR ⟨n.u, hby.trans (n.out.mono sy)⟩
          have cU' : ∀ n : Out wy, n.u.cell? ⟨wr.heap.size, 1, none⟩ = some (.slice (some ⟨t.b, t.off, none⟩) t.l.length t.cap) := fun n => cU ⟨n.u, hby.trans (n.out.mono sy)⟩
          have cS' : ∀ n : Out wy, n.u.cell? ⟨w.heap.size, 0, none⟩ = some (.slice (some ⟨b, off, none⟩) ts.length cap) := fun n => cS ⟨n.u, hby.trans (n.out.mono sy)⟩
          have inh' : Nonempty (Out wy) := ⟨⟨wy, Below.refl _ _⟩⟩
          have HTy : Hid (∀ n : Out wy, TmsAt n.u b off ts ∧ b < n.u.heap.size ∧ t.at n.u) := fun n => ⟨(HT1.out.below hby hB1).below n.out (by omega), by have := n.out.size; omega, ((HA.out.1.below hbA).below hby).below n.out⟩
          clear cR cU cS
          by_cases hl : 64 < t.lo.size
          · have H : Hid (¬ GoodS (tbs ts)) := fun q => by
              have h3 : t.lo.size ≤ 64 := (goodS_at q HA.out.2.1).size
              omega
            have hd : decide ((64 : Int) < (t.lo.size : Int)) = true := decide_eq_true (by omega)
            clear hl
            go_upto_region 8 with fail
            refine wp_region_out (by kernel_rfl) (by kernel_rfl) ?_
            repeat (go_big_quiet_step (fail))
            refine wpQuiet_nil ?_
            rintro wz ⟨⟨wx', hbz'⟩, rfl⟩
            have hbw : Below w.heap.size w wz := hbyx.trans (hbz'.mono (by omega))
            go_wp2_with fail
            go_ret
            exact ⟨_, rfl, iffF H.out, hbw⟩
          · have hd : decide ((64 : Int) < (t.lo.size : Int)) = false := decide_eq_false (by omega)
            obtain ⟨R, hR⟩ := bool_ex (GoodRs (esM t.l) ∧ RowsIn t.lo (hasN (tbs ts) k) (hiN (tbs ts) k) (esM t.l))
            have HR : Hid (R = true ↔ GoodRs (esM t.l) ∧ RowsIn t.lo (hasN (tbs ts) k) (hiN (tbs ts) k) (esM t.l)) := hR
            have HL : Hid (¬ 64 < t.lo.size) := hl
            clear hR hl
            go_upto_region 8 with fail
            refine wp_region_out (by kernel_rfl) (by kernel_rfl) ?_
            repeat (go_big_quiet_step ((first
              | (go_at_call 117; exact Calls.out_of (rowsIn_core b off cap ts k t _ (HTy.out _).1 (HTy.out _).2.1 HA.out.2.1 hn))
              | (go_at_call 116; exact Calls.out_of (validRuns_det t t.lo (hiN (tbs ts) k) (hasN (tbs ts) k) _ (HTy.out _).2.2 HA.out.2.2 R HR.out)))))
            refine wpQuiet_nil ?_
            rintro wz ⟨⟨wx', hbz'⟩, rfl⟩
            have hbw : Below w.heap.size w wz := hbyx.trans (hbz'.mono (by omega))
            have hbw0 : Below W0.heap.size W0 wz := hbyz.trans (hbz'.mono (by omega))
            cases R
            · have H : Hid (¬ GoodS (tbs ts)) := fun q => by
                have h3 := goodS_at q HA.out.2.1
                exact Bool.noConfusion (HR.out.2 ⟨h3.runs, h3.rows⟩)
              go_wp2_with fail
              go_ret
              exact ⟨_, rfl, iffF H.out, hbw⟩
            · have H : Hid (∀ j t, j < k + 1 → ts[j]? = some t → GoodT (tbs ts) j t.tb) := fun j u hj hu => by
                by_cases hjk : j < k
                · exact HV.out j u hjk hu
                · have : j = k := by omega
                  subst this
                  rw [HA.out.2.1] at hu
                  cases hu
                  refine ⟨?_, fun q _ hq => ?_, (HR.out.1 rfl).1, (HR.out.1 rfl).2⟩
                  · have := HL.out
                    show t.lo.size ≤ 64
                    omega
                  · rw [tbs_get, HP.out] at hq
                    cases hq
                    exact HLO.out
              go_wp2_with fail
              go_roundw
              case rel => exact ⟨k + 1, by omega, by go_num, H.out, hbw0⟩
              case measure => go_light; simp [intOf]; omega
    · have zk : ¬ (k : Int) < (ts.length : Int) := by omega
      have H : Hid (GoodS (tbs ts)) := goodS_of (by omega) (by omega) HF.out (fun i t ht => HV.out i t (by have := (List.getElem?_eq_some_iff.1 ht).1; omega) ht)
      go_wp2_with fail
      go_ret
      exact ⟨_, rfl, iffT H.out, hbx⟩
theorem implValidStore_core (b off cap : Nat) (ts : List Tm) (w : World) (h : TmsAt w b off ts) (hok : okTs ts) (hB : b < w.heap.size) (hn : ts.length ≤ 1048576) :
    Calls Try.prog 78 #[.agg #[.slice (some ⟨b, off, none⟩) ts.length cap]] w fun e w' =>
      ∃ r : Bool, e = .returned (.bool r) ∧ (r = true ↔ GoodS (tbs ts)) ∧ Below w.heap.size w w' := implValidStore_say b off cap ts w h hok hB hn
end Go.Proofs.Ytlgeffinhbodeae
