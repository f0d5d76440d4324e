import Derived.BigQuiet
import Derived.Test.YtlgeffinhbodeafGreatPkAE
import Derived.Test.YtlgeffinhbodeafGreatPkAM
import Derived.Test.YtlgeffinhbodeafGreatPkAN
import Derived.Test.YtlgeffinhbodeafGreatPkAD
/-
  impl.ValidStore.
-/
namespace Go.Proofs.YtlgeffinhbodeafGreat
open Go.ChangeShapes Go.WideShapes Go.ChangeAt Go.RowKit Go.Deep
set_option linter.unusedVariables false
set_option linter.unusedSimpArgs false
set_option maxRecDepth 100000

/-- A call tells whether 'P'. -/
def SayB (P : Prop) (w : World) (e : Ending) (w' : World) : Prop := ∃ r : Bool, e = .returned (.bool r) ∧ (r = true ↔ P) ∧ Below w.heap.size w w'
theorem bool_ex (P : Prop) : ∃ r : Bool, (r = true ↔ P) := by
  classical
  exact ⟨decide P, by simp⟩
theorem validRuns_det (t : Tm) (lo hi : ByteArray) (hh : Bool) (w : World) (ht : t.at w) (hok : OkTm t) (R : Bool) (hR : R = true ↔ GoodRs (esM t.l) ∧ RowsIn lo hh hi (esM t.l)) :
    Calls Tryz.prog 56 #[.agg #[.string t.lo, .slice (some ⟨t.b, t.off, none⟩) t.l.length t.cap], .agg #[.string lo, .bool hh, .string hi]] w fun e w' =>
      e = .returned (.bool R) ∧ Below w.heap.size w w' :=
  (validRuns_core t lo hi hh w ht hok).mono fun e w' ⟨r, h1, h2, h3⟩ => by
    have : r = R := by rw [Bool.eq_iff_iff, h2, hR]
    subst this
    exact ⟨h1, h3⟩
theorem size_empty {b : ByteArray} : b.toList.isEmpty = true ↔ b.size = 0 := by rw [isE]; exact decide_eq_true_iff

set_option maxHeartbeats 8000000 in
theorem implValidStore_say (b off cap : Nat) (ts : List Tm) (w : World) (h : TmsAt w b off ts) (hok : okTs ts) (hB : b < w.heap.size) (hn : ts.length ≤ 1048576) :
    Calls Tryz.prog 28 #[.agg #[.slice (some ⟨b, off, none⟩) ts.length cap]] w fun e w' => SayB (GoodS (tbs ts)) w e w' := by
  obtain ⟨W0, hW0⟩ : ∃ W0 : World, W0 = w.alloc (Obj.cells #[.slice (some ⟨b, off, none⟩) ts.length cap] 30) := ⟨_, rfl⟩
  have hb0 : Below w.heap.size w W0 := by rw [hW0]; exact (Below.refl _ _).alloc (Nat.le_refl _) _
  have hz0 : W0.heap.size = w.heap.size + 1 := by rw [hW0]; simp
  have HC : Hid (∀ wx, Below W0.heap.size W0 wx → wx.cell? ⟨w.heap.size, 0, none⟩ = some (.slice (some ⟨b, off, none⟩) ts.length cap)) := by
    intro wx hb
    rw [hb.cell (p := ⟨w.heap.size, 0, none⟩) (by show w.heap.size < W0.heap.size; omega), hW0]; simp
  have HT : Hid (TmsAt W0 b off ts ∧ okTs ts) := ⟨h.below hb0 hB, hok⟩
  have hB0 : b < W0.heap.size := by omega
  clear h hok
  by_cases h1 : ts.length = 0
  · have H : Hid (¬ GoodS (tbs ts)) := fun q => by have := q.ne; rw [tbs_len] at this; omega
    have z1 : (ts.length : Int) < 1 := by omega
    clear h1
    go_enter Tryz.func28, Tryz.ntmps28
    go_wp2_with fail
    go_ret
    rw [← hW0]
    exact ⟨_, rfl, iffF H.out, hb0⟩
  by_cases h2 : 100 < ts.length
  · have H : Hid (¬ GoodS (tbs ts)) := fun q => by have := q.le; rw [tbs_len] at this; omega
    have z1 : ¬ (ts.length : Int) < 1 := by omega
    have z2 : (100 : Int) < ts.length := by omega
    go_enter Tryz.func28, Tryz.ntmps28
    go_wp2_with fail
    go_ret
    rw [← hW0]
    exact ⟨_, rfl, iffF H.out, hb0⟩
  have z1 : ¬ (ts.length : Int) < 1 := by omega
  have z2 : ¬ (100 : Int) < ts.length := by omega
  obtain ⟨t0, ht0⟩ : ∃ t, ts[0]? = some t := ⟨_, List.getElem?_eq_getElem (by omega)⟩
  have c0 := HC.out W0 (Below.refl _ _)
  have d0 := (HT.out.1 0 t0 ht0).1
  rw [Nat.zero_mul, Nat.add_zero] at d0
  have H0 : Hid (ts[0]? = some t0) := ht0
  clear ht0
  cases he : t0.lo.toList.isEmpty
  · have H : Hid (¬ GoodS (tbs ts)) := fun q => by
      have := q.first t0.tb (by rw [tbs_get, H0.out]; rfl)
      have h3 : t0.lo.toList.isEmpty = true := size_empty.2 this
      rw [he] at h3
      cases h3
    go_enter Tryz.func28, Tryz.ntmps28
    go_upto_region 1 with fail
    rw [← hW0]
    clear hW0
    go_wp2_with fail
    go_ret
    exact ⟨_, rfl, iffF H.out, hb0⟩
  have HF : Hid (∀ t, ts[0]? = some t → t.lo.size = 0) := fun t ht => by
    rw [H0.out] at ht
    cases ht
    exact size_empty.1 he
  go_enter Tryz.func28, Tryz.ntmps28
  go_upto_region 1 with fail
  rw [← hW0]
  clear hW0
  go_wp2_with fail
  clear c0 d0 he
  go_loopw [26] (fun i wr => ∃ (k : Nat), k ≤ ts.length ∧ i = .int .i64 k ∧ (∀ j t, j < k → ts[j]? = some t → GoodT (tbs ts) j t.tb) ∧ Below W0.heap.size W0 wr) (fun i _ => ts.length - (intOf i).toNat)
  case atStart => exact ⟨0, Nat.zero_le _, rfl, fun j t hj => by omega, Below.refl _ _⟩
  case round =>
    obtain ⟨k, hk, rfl, hv, hb⟩ := hrel
    have HV : Hid (∀ j t, j < k → ts[j]? = some t → GoodT (tbs ts) j t.tb) := hv
    have hsz := hb.size
    have hbx := hb0.trans (hb.mono (by omega))
    clear hv
    by_cases hlt : k < ts.length
    · obtain ⟨t, ht⟩ : ∃ t, ts[k]? = some t := ⟨_, List.getElem?_eq_getElem hlt⟩
      obtain ⟨c0, c1, ha⟩ := (HT.out.1.below hb hB0) k t ht
      have HA : Hid (t.at wr ∧ ts[k]? = some t ∧ OkTm t) := ⟨ha, ht, HT.out.2 t (List.mem_of_getElem? ht)⟩
      have hrl : t.l.length ≤ 1048576 := HA.out.2.2.runs
      have hsl : t.lo.size ≤ maxLen := HA.out.2.2.lo
      unfold maxLen at hsl
      clear ha ht
      obtain ⟨W1, hW1⟩ : ∃ W1 : World, W1 = wr.alloc (Obj.cells #[.string t.lo, .slice (some ⟨t.b, t.off, none⟩) t.l.length t.cap] 56) := ⟨_, rfl⟩
      have hbA : Below wr.heap.size wr W1 := by rw [hW1]; exact (Below.refl _ _).alloc (Nat.le_refl _) _
      have hzA : W1.heap.size = wr.heap.size + 1 := by rw [hW1]; simp
      have hbz : Below W0.heap.size W0 W1 := hb.trans (hbA.mono hsz)
      have hbzx : Below w.heap.size w W1 := hb0.trans (hbz.mono (by omega))
      have cR : ∀ n : Out W1, n.u.cell? ⟨wr.heap.size, 0, none⟩ = some (.string t.lo) := fun n => by
        rw [n.out.cell (p := ⟨wr.heap.size, 0, none⟩) (by show wr.heap.size < W1.heap.size; omega), hW1]; simp
      have cU : ∀ n : Out W1, n.u.cell? ⟨wr.heap.size, 1, none⟩ = some (.slice (some ⟨t.b, t.off, none⟩) t.l.length t.cap) := fun n => by
        rw [n.out.cell (p := ⟨wr.heap.size, 1, none⟩) (by show wr.heap.size < W1.heap.size; omega), hW1]; simp
      have cS : ∀ n : Out W1, n.u.cell? ⟨w.heap.size, 0, none⟩ = some (.slice (some ⟨b, off, none⟩) ts.length cap) := fun n => HC.out n.u (hbz.trans (n.out.mono (by omega)))
      have inh : Nonempty (Out W1) := ⟨⟨W1, Below.refl _ _⟩⟩
      have zk : (k : Int) < (ts.length : Int) := by omega
      have hB1 : b < W1.heap.size := by omega
      have HT1 : Hid (TmsAt W1 b off ts) := HT.out.1.below hbz hB0
      by_cases hk0 : k = 0
      · have hg : decide (0 < k) = false := decide_eq_false (by omega)
        have HK : Hid (k = 0) := hk0
        clear hk0
        go_upto_region 6 with fail
        rw [← hW1]
        clear hW1
        refine wp_region_out (by kernel_rfl) (by kernel_rfl) ?_
        repeat (go_big_quiet_step (fail))
        refine wpQuiet_nil ?_
        rintro wy ⟨⟨wx, hby⟩, rfl⟩
        have sy := hby.size
        have hbyx : Below w.heap.size w wy := hbzx.trans (hby.mono (by omega))
        have hbyz : Below W0.heap.size W0 wy := hbz.trans (hby.mono (by omega))
        have cR' : ∀ n : Out wy, n.u.cell? ⟨wr.heap.size, 0, none⟩ = some (.string t.lo) := fun n => cR ⟨n.u, hby.trans (n.out.mono sy)⟩
        have cU' : ∀ n : Out wy, n.u.cell? ⟨wr.heap.size, 1, none⟩ = some (.slice (some ⟨t.b, t.off, none⟩) t.l.length t.cap) := fun n => cU ⟨n.u, hby.trans (n.out.mono sy)⟩
        have cS' : ∀ n : Out wy, n.u.cell? ⟨w.heap.size, 0, none⟩ = some (.slice (some ⟨b, off, none⟩) ts.length cap) := fun n => cS ⟨n.u, hby.trans (n.out.mono sy)⟩
        have inh' : Nonempty (Out wy) := ⟨⟨wy, Below.refl _ _⟩⟩
        have HTy : Hid (∀ n : Out wy, TmsAt n.u b off ts ∧ b < n.u.heap.size ∧ t.at n.u) := fun n => ⟨(HT1.out.below hby hB1).below n.out (by omega), by have := n.out.size; omega, ((HA.out.1.below hbA).below hby).below n.out⟩
        clear cR cU cS
        by_cases hl : 64 < t.lo.size
        · have H : Hid (¬ GoodS (tbs ts)) := fun q => by
            have h3 : t.lo.size ≤ 64 := (goodS_at q HA.out.2.1).size
            omega
          have hd : decide ((64 : Int) < (t.lo.size : Int)) = true := decide_eq_true (by omega)
          clear hl
          go_upto_region 8 with fail
          refine wp_region_out (by kernel_rfl) (by kernel_rfl) ?_
          repeat (go_big_quiet_step (fail))
          refine wpQuiet_nil ?_
          rintro wz ⟨⟨wx', hbz'⟩, rfl⟩
          have hbw : Below w.heap.size w wz := hbyx.trans (hbz'.mono (by omega))
          go_wp2_with fail
          go_ret
          exact ⟨_, rfl, iffF H.out, hbw⟩
        · have hd : decide ((64 : Int) < (t.lo.size : Int)) = false := decide_eq_false (by omega)
          obtain ⟨R, hR⟩ := bool_ex (GoodRs (esM t.l) ∧ RowsIn t.lo (hasN (tbs ts) k) (hiN (tbs ts) k) (esM t.l))
          have HR : Hid (R = true ↔ GoodRs (esM t.l) ∧ RowsIn t.lo (hasN (tbs ts) k) (hiN (tbs ts) k) (esM t.l)) := hR
          have HL : Hid (¬ 64 < t.lo.size) := hl
          clear hR hl
          go_upto_region 8 with fail
          refine wp_region_out (by kernel_rfl) (by kernel_rfl) ?_
          repeat (go_big_quiet_step ((first
            | (go_at_call 57; exact Calls.out_of (rowsIn_core b off cap ts k t _ (HTy.out _).1 (HTy.out _).2.1 HA.out.2.1 hn))
            | (go_at_call 56; exact Calls.out_of (validRuns_det t t.lo (hiN (tbs ts) k) (hasN (tbs ts) k) _ (HTy.out _).2.2 HA.out.2.2 R HR.out)))))
          refine wpQuiet_nil ?_
          rintro wz ⟨⟨wx', hbz'⟩, rfl⟩
          have hbw : Below w.heap.size w wz := hbyx.trans (hbz'.mono (by omega))
          have hbw0 : Below W0.heap.size W0 wz := hbyz.trans (hbz'.mono (by omega))
          cases R
          · have H : Hid (¬ GoodS (tbs ts)) := fun q => by
              have h3 := goodS_at q HA.out.2.1
              exact Bool.noConfusion (HR.out.2 ⟨h3.runs, h3.rows⟩)
            go_wp2_with fail
            go_ret
            exact ⟨_, rfl, iffF H.out, hbw⟩
          · have H : Hid (∀ j t, j < k + 1 → ts[j]? = some t → GoodT (tbs ts) j t.tb) := fun j u hj hu => by
              by_cases hjk : j < k
              · exact HV.out j u hjk hu
              · have : j = k := by omega
                subst this
                rw [HA.out.2.1] at hu
                cases hu
                refine ⟨?_, fun p hp => by have := HK.out; omega, (HR.out.1 rfl).1, (HR.out.1 rfl).2⟩
                have := HL.out
                show t.lo.size ≤ 64
                omega
            go_wp2_with fail
            go_roundw
            case rel => exact ⟨k + 1, by omega, by go_num, H.out, hbw0⟩
            case measure => go_light; simp [intOf]; omega
      · obtain ⟨p, hp⟩ : ∃ p, ts[k - 1]? = some p := ⟨_, List.getElem?_eq_getElem (by omega)⟩
        obtain ⟨p0, p1, p2⟩ := tmsAt_out HT1.out hB1 hp
        clear p1 p2
        have HP : Hid (ts[k - 1]? = some p) := hp
        clear hp
        have hg : decide (0 < k) = true := decide_eq_true (by omega)
        have em : (k : Int) - 1 = ((k - 1 : Nat) : Int) := by omega
        cases hlo : Op.bytesLess p.lo.toList t.lo.toList
        · have hle : (Op.bytesLess t.lo.toList p.lo.toList || t.lo.toList == p.lo.toList) = true := by rw [le_less, hlo]; rfl
          have H : Hid (¬ GoodS (tbs ts)) := fun q => by
            have h3 := (goodS_at q HA.out.2.1).up p.tb (by omega) (by rw [tbs_get, HP.out]; rfl)
            have h4 : Op.bytesLess p.lo.toList t.lo.toList = true := h3
            rw [hlo] at h4
            cases h4
          clear hlo
          go_upto_region 6 with fail
          rw [← hW1]
          clear hW1
          refine wp_region_out (by kernel_rfl) (by kernel_rfl) ?_
          repeat (go_big_quiet_step (fail))
          refine wpQuiet_nil ?_
          rintro wy ⟨⟨wx, hby⟩, rfl⟩
          have hbyx : Below w.heap.size w wy := hbzx.trans (hby.mono (by omega))
          go_wp2_with fail
          go_ret
          exact ⟨_, rfl, iffF H.out, hbyx⟩
        · have HLO : Hid (Op.bytesLess p.lo.toList t.lo.toList = true) := hlo
          have hle : (Op.bytesLess t.lo.toList p.lo.toList || t.lo.toList == p.lo.toList) = false := by rw [le_less, hlo]; rfl
          clear hlo
          go_upto_region 6 with fail
          rw [← hW1]
          clear hW1
          refine wp_region_out (by kernel_rfl) (by kernel_rfl) ?_
          repeat (go_big_quiet_step (fail))
          refine wpQuiet_nil ?_
          rintro wy ⟨⟨wx, hby⟩, rfl⟩
          have sy := hby.size
          have hbyx : Below w.heap.size w wy := hbzx.trans (hby.mono (by omega))
          have hbyz : Below W0.heap.size W0 wy := hbz.trans (hby.mono (by omega))
          have cR' : ∀ n : Out wy, n.u.cell? ⟨wr.heap.size, 0, none⟩ = some (.string t.lo) := fun n => cR ⟨n.u, hby.trans (n.out.mono sy)⟩
          have cU' : ∀ n : Out wy, n.u.cell? ⟨wr.heap.size, 1, none⟩ = some (.slice (some ⟨t.b, t.off, none⟩) t.l.length t.cap) := fun n => cU ⟨n.u, hby.trans (n.out.mono sy)⟩
          have cS' : ∀ n : Out wy, n.u.cell? ⟨w.heap.size, 0, none⟩ = some (.slice (some ⟨b, off, none⟩) ts.length cap) := fun n => cS ⟨n.u, hby.trans (n.out.mono sy)⟩
          have inh' : Nonempty (Out wy) := ⟨⟨wy, Below.refl _ _⟩⟩
          have HTy : Hid (∀ n : Out wy, TmsAt n.u b off ts ∧ b < n.u.heap.size ∧ t.at n.u) := fun n => ⟨(HT1.out.below hby hB1).below n.out (by omega), by have := n.out.size; omega, ((HA.out.1.below hbA).below hby).below n.out⟩
          clear cR cU cS
          by_cases hl : 64 < t.lo.size
          · have H : Hid (¬ GoodS (tbs ts)) := fun q => by
              have h3 : t.lo.size ≤ 64 := (goodS_at q HA.out.2.1).size
              omega
            have hd : decide ((64 : Int) < (t.lo.size : Int)) = true := decide_eq_true (by omega)
            clear hl
            go_upto_region 8 with fail
            refine wp_region_out (by kernel_rfl) (by kernel_rfl) ?_
            repeat (go_big_quiet_step (fail))
            refine wpQuiet_nil ?_
            rintro wz ⟨⟨wx', hbz'⟩, rfl⟩
            have hbw : Below w.heap.size w wz := hbyx.trans (hbz'.mono (by omega))
            go_wp2_with fail
            go_ret
            exact ⟨_, rfl, iffF H.out, hbw⟩
          · have hd : decide ((64 : Int) < (t.lo.size : Int)) = false := decide_eq_false (by omega)
            obtain ⟨R, hR⟩ := bool_ex (GoodRs (esM t.l) ∧ RowsIn t.lo (hasN (tbs ts) k) (hiN (tbs ts) k) (esM t.l))
            have HR : Hid (R = true ↔ GoodRs (esM t.l) ∧ RowsIn t.lo (hasN (tbs ts) k) (hiN (tbs ts) k) (esM t.l)) := hR
            have HL : Hid (¬ 64 < t.lo.size) := hl
            clear hR hl
            go_upto_region 8 with fail
            refine wp_region_out (by kernel_rfl) (by kernel_rfl) ?_
            repeat (go_big_quiet_step ((first
              | (go_at_call 57; exact Calls.out_of (rowsIn_core b off cap ts k t _ (HTy.out _).1 (HTy.out _).2.1 HA.out.2.1 hn))
              | (go_at_call 56; exact Calls.out_of (validRuns_det t t.lo (hiN (tbs ts) k) (hasN (tbs ts) k) _ (HTy.out _).2.2 HA.out.2.2 R HR.out)))))
            refine wpQuiet_nil ?_
            rintro wz ⟨⟨wx', hbz'⟩, rfl⟩
            have hbw : Below w.heap.size w wz := hbyx.trans (hbz'.mono (by omega))
            have hbw0 : Below W0.heap.size W0 wz := hbyz.trans (hbz'.mono (by omega))
            cases R
            · have H : Hid (¬ GoodS (tbs ts)) := fun q => by
                have h3 := goodS_at q HA.out.2.1
                exact Bool.noConfusion (HR.out.2 ⟨h3.runs, h3.rows⟩)
              go_wp2_with fail
              go_ret
              exact ⟨_, rfl, iffF H.out, hbw⟩
            · have H : Hid (∀ j t, j < k + 1 → ts[j]? = some t → GoodT (tbs ts) j t.tb) := fun j u hj hu => by
                by_cases hjk : j < k
                · exact HV.out j u hjk hu
                · have : j = k := by omega
                  subst this
                  rw [HA.out.2.1] at hu
                  cases hu
                  refine ⟨?_, fun q _ hq => ?_, (HR.out.1 rfl).1, (HR.out.1 rfl).2⟩
                  · have := HL.out
                    show t.lo.size ≤ 64
                    omega
                  · rw [tbs_get, HP.out] at hq
                    cases hq
                    exact HLO.out
              go_wp2_with fail
              go_roundw
              case rel => exact ⟨k + 1, by omega, by go_num, H.out, hbw0⟩
              case measure => go_light; simp [intOf]; omega
    · have zk : ¬ (k : Int) < (ts.length : Int) := by omega
      have H : Hid (GoodS (tbs ts)) := goodS_of (by omega) (by omega) HF.out (fun i t ht => HV.out i t (by have := (List.getElem?_eq_some_iff.1 ht).1; omega) ht)
      go_wp2_with fail
      go_ret
      exact ⟨_, rfl, iffT H.out, hbx⟩
theorem implValidStore_core (b off cap : Nat) (ts : List Tm) (w : World) (h : TmsAt w b off ts) (hok : okTs ts) (hB : b < w.heap.size) (hn : ts.length ≤ 1048576) :
    Calls Tryz.prog 28 #[.agg #[.slice (some ⟨b, off, none⟩) ts.length cap]] w fun e w' =>
      ∃ r : Bool, e = .returned (.bool r) ∧ (r = true ↔ GoodS (tbs ts)) ∧ Below w.heap.size w w' := implValidStore_say b off cap ts w h hok hB hn
end Go.Proofs.YtlgeffinhbodeafGreat

/-
  spec.ValidStore.
-/
namespace Go.Proofs.YtlgeffinhbodeafGreat
open Go.ChangeShapes Go.WideShapes Go.ChangeAt Go.RowKit Go.Deep
set_option linter.unusedVariables false
set_option linter.unusedSimpArgs false
set_option maxRecDepth 100000

theorem goodRuns_det (b off cap : Nat) (l : List Rm) (w : World) (hR : RmsAt w b off l) (hok : okM l) (hB : b < w.heap.size) (hlen : l.length ≤ 1048576) (R : Bool) (h : R = true ↔ GoodRs (esM l)) :
    Calls Tryz.prog 49 #[.slice (some ⟨b, off, none⟩) l.length cap] w fun e w' => e = .returned (.bool R) ∧ Below w.heap.size w w' :=
  (goodRuns_core b off cap l w hR hok hB hlen).mono fun e w' ⟨r, h1, h2, h3⟩ => by
    have : r = R := by rw [Bool.eq_iff_iff, h2, h]
    subst this
    exact ⟨h1, h3⟩

set_option maxHeartbeats 8000000 in
theorem specValidStore_say (b off cap : Nat) (ts : List Tm) (w : World) (h : TmsAt w b off ts) (hok : okTs ts) (hB : b < w.heap.size) (hn : ts.length ≤ 1048576) :
    Calls Tryz.prog 21 #[.agg #[.slice (some ⟨b, off, none⟩) ts.length cap]] w fun e w' => SayB (GoodS (tbs ts)) w e w' := by
  obtain ⟨W0, hW0⟩ : ∃ W0 : World, W0 = w.alloc (Obj.cells #[.slice (some ⟨b, off, none⟩) ts.length cap] 30) := ⟨_, rfl⟩
  have hb0 : Below w.heap.size w W0 := by rw [hW0]; exact (Below.refl _ _).alloc (Nat.le_refl _) _
  have hz0 : W0.heap.size = w.heap.size + 1 := by rw [hW0]; simp
  have HC : Hid (∀ wx, Below W0.heap.size W0 wx → wx.cell? ⟨w.heap.size, 0, none⟩ = some (.slice (some ⟨b, off, none⟩) ts.length cap)) := by
    intro wx hb
    rw [hb.cell (p := ⟨w.heap.size, 0, none⟩) (by show w.heap.size < W0.heap.size; omega), hW0]; simp
  have HT : Hid (TmsAt W0 b off ts ∧ okTs ts) := ⟨h.below hb0 hB, hok⟩
  have hB0 : b < W0.heap.size := by omega
  clear h hok
  by_cases h1 : ts.length = 0
  · have H : Hid (¬ GoodS (tbs ts)) := fun q => by have := q.ne; rw [tbs_len] at this; omega
    have z1 : (ts.length : Int) < 1 := by omega
    clear h1
    go_enter Tryz.func21, Tryz.ntmps21
    go_wp2_with fail
    go_ret
    rw [← hW0]
    exact ⟨_, rfl, iffF H.out, hb0⟩
  by_cases h2 : 100 < ts.length
  · have H : Hid (¬ GoodS (tbs ts)) := fun q => by have := q.le; rw [tbs_len] at this; omega
    have z1 : ¬ (ts.length : Int) < 1 := by omega
    have z2 : (100 : Int) < ts.length := by omega
    go_enter Tryz.func21, Tryz.ntmps21
    go_wp2_with fail
    go_ret
    rw [← hW0]
    exact ⟨_, rfl, iffF H.out, hb0⟩
  have z1 : ¬ (ts.length : Int) < 1 := by omega
  have z2 : ¬ (100 : Int) < ts.length := by omega
  obtain ⟨t0, ht0⟩ : ∃ t, ts[0]? = some t := ⟨_, List.getElem?_eq_getElem (by omega)⟩
  have c0 := HC.out W0 (Below.refl _ _)
  have d0 := (HT.out.1 0 t0 ht0).1
  rw [Nat.zero_mul, Nat.add_zero] at d0
  have H0 : Hid (ts[0]? = some t0) := ht0
  clear ht0
  cases he : t0.lo.toList.isEmpty
  · have H : Hid (¬ GoodS (tbs ts)) := fun q => by
      have := q.first t0.tb (by rw [tbs_get, H0.out]; rfl)
      have h3 : t0.lo.toList.isEmpty = true := size_empty.2 this
      rw [he] at h3
      cases h3
    go_enter Tryz.func21, Tryz.ntmps21
    go_upto_region 1 with fail
    rw [← hW0]
    clear hW0
    go_wp2_with fail
    go_ret
    exact ⟨_, rfl, iffF H.out, hb0⟩
  have HF : Hid (∀ t, ts[0]? = some t → t.lo.size = 0) := fun t ht => by
    rw [H0.out] at ht
    cases ht
    exact size_empty.1 he
  go_enter Tryz.func21, Tryz.ntmps21
  go_upto_region 1 with fail
  rw [← hW0]
  clear hW0
  go_wp2_with fail
  clear c0 d0 he
  go_loopw [4] (fun i wr => ∃ (k : Nat), k ≤ ts.length ∧ i = .int .i64 k ∧ (∀ j t, j < k → ts[j]? = some t → GoodT (tbs ts) j t.tb) ∧ Below W0.heap.size W0 wr) (fun i _ => ts.length - (intOf i).toNat)
  case atStart => exact ⟨0, Nat.zero_le _, rfl, fun j t hj => by omega, Below.refl _ _⟩
  case round =>
    obtain ⟨k, hk, rfl, hv, hb⟩ := hrel
    have HV : Hid (∀ j t, j < k → ts[j]? = some t → GoodT (tbs ts) j t.tb) := hv
    have hsz := hb.size
    have hbx := hb0.trans (hb.mono (by omega))
    clear hv
    by_cases hlt : k < ts.length
    · obtain ⟨t, ht⟩ : ∃ t, ts[k]? = some t := ⟨_, List.getElem?_eq_getElem hlt⟩
      obtain ⟨c0, c1, ha⟩ := (HT.out.1.below hb hB0) k t ht
      have HA : Hid (t.at wr ∧ ts[k]? = some t ∧ OkTm t) := ⟨ha, ht, HT.out.2 t (List.mem_of_getElem? ht)⟩
      have hrl : t.l.length ≤ 1048576 := HA.out.2.2.runs
      have hsl : t.lo.size ≤ maxLen := HA.out.2.2.lo
      unfold maxLen at hsl
      have cw := HC.out wr hb
      clear ha ht
      obtain ⟨W1, hW1⟩ : ∃ W1 : World, W1 = wr.alloc (Obj.cells #[.string t.lo, .slice (some ⟨t.b, t.off, none⟩) t.l.length t.cap] 56) := ⟨_, rfl⟩
      have hbA : Below wr.heap.size wr W1 := by rw [hW1]; exact (Below.refl _ _).alloc (Nat.le_refl _) _
      have hzA : W1.heap.size = wr.heap.size + 1 := by rw [hW1]; simp
      have hbz : Below W0.heap.size W0 W1 := hb.trans (hbA.mono hsz)
      have hbzx : Below w.heap.size w W1 := hb0.trans (hbz.mono (by omega))
      have HCA : Hid (∀ wx, Below W1.heap.size W1 wx → wx.cell? ⟨wr.heap.size, 0, none⟩ = some (.string t.lo) ∧ wx.cell? ⟨wr.heap.size, 1, none⟩ = some (.slice (some ⟨t.b, t.off, none⟩) t.l.length t.cap) ∧ wx.cell? ⟨w.heap.size, 0, none⟩ = some (.slice (some ⟨b, off, none⟩) ts.length cap) ∧ TmsAt wx b off ts ∧ b < wx.heap.size ∧ t.at wx) := by
        intro wx hx
        have sx := hx.size
        refine ⟨?_, ?_, HC.out wx (hbz.trans (hx.mono (by omega))), (HT.out.1.below hbz hB0).below hx (by omega), by omega, (HA.out.1.below hbA).below hx⟩
        · rw [hx.cell (p := ⟨wr.heap.size, 0, none⟩) (by show wr.heap.size < W1.heap.size; omega), hW1]; simp
        · rw [hx.cell (p := ⟨wr.heap.size, 1, none⟩) (by show wr.heap.size < W1.heap.size; omega), hW1]; simp
      have cR : ∀ n : Out W1, n.u.cell? ⟨wr.heap.size, 0, none⟩ = some (.string t.lo) := fun n => (HCA.out n.u n.out).1
      have cU : ∀ n : Out W1, n.u.cell? ⟨wr.heap.size, 1, none⟩ = some (.slice (some ⟨t.b, t.off, none⟩) t.l.length t.cap) := fun n => (HCA.out n.u n.out).2.1
      have cS : ∀ n : Out W1, n.u.cell? ⟨w.heap.size, 0, none⟩ = some (.slice (some ⟨b, off, none⟩) ts.length cap) := fun n => (HCA.out n.u n.out).2.2.1
      have inh : Nonempty (Out W1) := ⟨⟨W1, Below.refl _ _⟩⟩
      have zk : (k : Int) < (ts.length : Int) := by omega
      have hB1 : b < W1.heap.size := by omega
      obtain ⟨p, hp⟩ : ∃ p, (0 < k → ts[k - 1]? = some p) := by
        by_cases h0 : 0 < k
        · exact ⟨ts[k - 1]'(by omega), fun _ => List.getElem?_eq_getElem _⟩
        · exact ⟨t, fun q => absurd q h0⟩
      have p0 : 0 < k → ∀ n : Out W1, n.u.cell? ⟨b, off + (k - 1) * 2, none⟩ = some (.string p.lo) := fun q n => ((HCA.out n.u n.out).2.2.2.1 (k - 1) p (hp q)).1
      have HP : Hid (0 < k → ts[k - 1]? = some p) := hp
      clear hp
      obtain ⟨R, hR⟩ := bool_ex (GoodRs (esM t.l))
      have HR : Hid (R = true ↔ GoodRs (esM t.l)) := hR
      clear hR
      by_cases hl : 64 < t.lo.size
      · have H : Hid (¬ GoodS (tbs ts)) := fun q => by
          have h3 : t.lo.size ≤ 64 := (goodS_at q HA.out.2.1).size
          omega
        have hd : decide ((64 : Int) < (t.lo.size : Int)) = true := decide_eq_true (by omega)
        clear hl p0
        go_upto_region 8 with fail
        rw [← hW1]
        clear hW1
        refine wp_region_out (by kernel_rfl) (by kernel_rfl) ?_
        repeat (go_big_quiet_step (fail))
        refine wpQuiet_nil ?_
        rintro wz ⟨⟨wx', hbz'⟩, rfl⟩
        have hbw : Below w.heap.size w wz := hbzx.trans (hbz'.mono (by omega))
        go_wp2_with fail
        go_ret
        exact ⟨_, rfl, iffF H.out, hbw⟩
      have hd : decide ((64 : Int) < (t.lo.size : Int)) = false := decide_eq_false (by omega)
      have HL : Hid (¬ 64 < t.lo.size) := hl
      clear hl
      by_cases hk0 : k = 0
      · have hg : decide (0 < k) = false := decide_eq_false (by omega)
        have HK : Hid (k = 0) := hk0
        clear hk0 p0
        go_upto_region 8 with fail
        rw [← hW1]
        clear hW1
        refine wp_region_out (by kernel_rfl) (by kernel_rfl) ?_
        repeat (go_big_quiet_step ((go_at_call 49; exact Calls.out_of (goodRuns_det t.b t.off t.cap t.l _ (HCA.out _ (Out.out _)).2.2.2.2.2.rms HA.out.2.2.ents (HCA.out _ (Out.out _)).2.2.2.2.2.lt hrl R HR.out))))
        refine wpQuiet_nil ?_
        rintro wy ⟨⟨wx, hby⟩, rfl⟩
        have sy := hby.size
        have hbyx : Below w.heap.size w wy := hbzx.trans (hby.mono (by omega))
        have hbyz : Below W0.heap.size W0 wy := hbz.trans (hby.mono (by omega))
        clear cR cU cS
        cases R
        · have H : Hid (¬ GoodS (tbs ts)) := fun q => Bool.noConfusion (HR.out.2 (goodS_at q HA.out.2.1).runs)
          go_wp2_with fail
          go_ret
          exact ⟨_, rfl, iffF H.out, hbyx⟩
        have HG : Hid (GoodRs (esM t.l)) := HR.out.1 rfl
        go_wp2_with fail
        go_loopw [6] (fun i wr => ∃ (j : Nat), j ≤ t.l.length ∧ i = .int .i64 j ∧ (∀ r ∈ t.l.take j, r.es ≠ [] ∧ ∀ e ∈ r.es, inR t.lo (hasN (tbs ts) k) (hiN (tbs ts) k) e.row = true) ∧ Below W1.heap.size W1 wr) (fun i _ => t.l.length - (intOf i).toNat)
        case atStart => exact ⟨0, Nat.zero_le _, rfl, by simp, hby⟩
        case round =>
          obtain ⟨wr_1, hw1⟩ : ∃ v : World, v = wr := ⟨_, rfl⟩
          subst hw1
          obtain ⟨j, hj, rfl, hvj, hbj⟩ := hrel
          have HJ : Hid (∀ r ∈ t.l.take j, r.es ≠ [] ∧ ∀ e ∈ r.es, inR t.lo (hasN (tbs ts) k) (hiN (tbs ts) k) e.row = true) := hvj
          have sj := hbj.size
          have hbjx : Below w.heap.size w wr_1 := hbzx.trans (hbj.mono (by omega))
          have hbjz : Below W0.heap.size W0 wr_1 := hbz.trans (hbj.mono (by omega))
          clear hvj
          obtain ⟨e0, e1, e2, e3, e4, e5⟩ := HCA.out wr_1 hbj
          have HTm : Hid (t.at wr_1) := e5
          clear e3 e5
          by_cases hjl : j < t.l.length
          · obtain ⟨r, hr⟩ : ∃ r, t.l[j]? = some r := ⟨_, List.getElem?_eq_getElem hjl⟩
            obtain ⟨f0, fa⟩ := HTm.out.rms j r hr
            have HRr : Hid (r.at wr_1 ∧ t.l[j]? = some r ∧ GoodR r.es) := ⟨fa, hr, goodRs_mem HG.out (List.mem_of_getElem? hr)⟩
            have hrr : r.es.length ≤ 1048576 := by have := HRr.out.2.2.1.1; omega
            clear fa hr
            have zj : (j : Int) < (t.l.length : Int) := by omega
            by_cases hemp : r.es.length = 0
            · have H : Hid (¬ GoodS (tbs ts)) := fun q => (rowsIn_mem (goodS_at q HA.out.2.1).rows (List.mem_of_getElem? HRr.out.2.1)).1 (List.eq_nil_of_length_eq_zero hemp)
              have hd0 : ((r.es.length : Int) == 0) = true := by rw [hemp]; rfl
              clear hemp
              go_wp2_with fail
              go_ret
              exact ⟨_, rfl, iffF H.out, hbjx⟩
            have hd0 : ((r.es.length : Int) == 0) = false := beq_eq_false_iff_ne.2 (by omega)
            have HM : Hid (¬ r.es.length = 0) := hemp
            clear hemp
            go_wp2_with fail
            go_loopw [8] (fun i wr => ∃ (m : Nat), m ≤ r.es.length ∧ i = .int .i64 m ∧ (∀ e ∈ r.es.take m, inR t.lo (hasN (tbs ts) k) (hiN (tbs ts) k) e.row = true) ∧ Below wr_1.heap.size wr_1 wr) (fun i _ => r.es.length - (intOf i).toNat)
            case atStart => exact ⟨0, Nat.zero_le _, rfl, by simp, Below.refl _ _⟩
            case round =>
              obtain ⟨wr_2, hw2⟩ : ∃ v : World, v = wr := ⟨_, rfl⟩
              subst hw2
              obtain ⟨m, hm, rfl, hvm, hbm⟩ := hrel
              have HMm : Hid (∀ e ∈ r.es.take m, inR t.lo (hasN (tbs ts) k) (hiN (tbs ts) k) e.row = true) := hvm
              have sm := hbm.size
              have hbmx : Below w.heap.size w wr_2 := hbjx.trans (hbm.mono (by omega))
              have hbmj : Below W1.heap.size W1 wr_2 := hbj.trans (hbm.mono (by omega))
              clear hvm
              by_cases hml : m < r.es.length
              · obtain ⟨x, hx⟩ : ∃ x, r.es[m]? = some x := ⟨_, List.getElem?_eq_getElem hml⟩
                have q0 := (ents_out (HRr.out.1.ents.below hbm HRr.out.1.lt) (by have := HRr.out.1.lt; omega) hx).1
                have HXx : Hid (r.es[m]? = some x) := hx
                have qS : ∀ n : Out wr_2, n.u.cell? ⟨w.heap.size, 0, none⟩ = some (.slice (some ⟨b, off, none⟩) ts.length cap) := fun n => (HCA.out n.u (hbmj.trans (n.out.mono hbmj.size))).2.2.1
                have HY : Hid (∀ n : Out wr_2, TmsAt n.u b off ts ∧ b < n.u.heap.size) := fun n => ⟨(HCA.out n.u (hbmj.trans (n.out.mono hbmj.size))).2.2.2.1, (HCA.out n.u (hbmj.trans (n.out.mono hbmj.size))).2.2.2.2.1⟩
                clear hx
                have zm : (m : Int) < (r.es.length : Int) := by omega
                have inh2 : Nonempty (Out wr_2) := ⟨⟨wr_2, Below.refl _ _⟩⟩
                go_upto_region 19 with fail
                refine wp_region_out (by kernel_rfl) (by kernel_rfl) ?_
                repeat (go_big_quiet_step ((first
                  | (go_at_call 24; exact Calls.out_of (specRange_core b off cap ts k t _ (HY.out _).1 (HY.out _).2 HA.out.2.1 hn))
                  | (go_at_call 50; exact Calls.out_of (specInRange_core t.lo (hiN (tbs ts) k) x.row (hasN (tbs ts) k) _)))))
                refine wpQuiet_nil ?_
                rintro wz ⟨⟨wx', hbz'⟩, rfl⟩
                have hbw : Below w.heap.size w wz := hbmx.trans (hbz'.mono (by omega))
                have hbw2 : Below wr_1.heap.size wr_1 wz := hbm.trans (hbz'.mono (by omega))
                cases hin : inR t.lo (hasN (tbs ts) k) (hiN (tbs ts) k) x.row
                · have H : Hid (¬ GoodS (tbs ts)) := fun q => by
                    have h3 := (rowsIn_mem (goodS_at q HA.out.2.1).rows (List.mem_of_getElem? HRr.out.2.1)).2 x (List.mem_of_getElem? HXx.out)
                    have h4 : inR t.lo (hasN (tbs ts) k) (hiN (tbs ts) k) x.row = true := h3
                    rw [hin] at h4
                    cases h4
                  go_wp2_with fail
                  go_ret
                  exact ⟨_, rfl, iffF H.out, hbw⟩
                · have H : Hid (∀ e ∈ r.es.take (m + 1), inR t.lo (hasN (tbs ts) k) (hiN (tbs ts) k) e.row = true) := fun y hy => by
                    rcases mem_take_succ HXx.out hy with h | rfl
                    · exact HMm.out y h
                    · exact hin
                  go_wp2_with fail
                  go_roundw
                  case rel => exact ⟨m + 1, by omega, by go_num, H.out, hbw2⟩
                  case measure => go_light; simp [intOf]; omega
              · have zm : ¬ (m : Int) < (r.es.length : Int) := by omega
                have H : Hid (∀ x ∈ t.l.take (j + 1), x.es ≠ [] ∧ ∀ e ∈ x.es, inR t.lo (hasN (tbs ts) k) (hiN (tbs ts) k) e.row = true) := fun y hy => by
                  rcases mem_take_succ HRr.out.2.1 hy with h | rfl
                  · exact HJ.out y h
                  · refine ⟨fun q => HM.out (by rw [q]; rfl), fun e he => HMm.out e ?_⟩
                    rw [List.take_of_length_le (by omega)]; exact he
                go_wp2_with fail
                go_roundw
                case rel => exact ⟨j + 1, by omega, by go_num, H.out, hbmj⟩
                case measure => go_light; simp [intOf]; omega
          · have zj : ¬ (j : Int) < (t.l.length : Int) := by omega
            have H : Hid (∀ j t, j < k + 1 → ts[j]? = some t → GoodT (tbs ts) j t.tb) := fun i u hi hu => by
              by_cases hjk : i < k
              · exact HV.out i u hjk hu
              · have : i = k := by omega
                subst this
                rw [HA.out.2.1] at hu
                cases hu
                refine ⟨?_, fun q hq0 hq => ?_, HG.out, rowsIn_of (fun r hr => HJ.out r (by rw [List.take_of_length_le (by omega)]; exact hr))⟩
                · have := HL.out
                  show t.lo.size ≤ 64
                  omega
                · have := HK.out
                  omega
            go_wp2_with fail
            go_roundw
            case rel => exact ⟨k + 1, by omega, by go_num, H.out, hbjz⟩
            case measure => go_light; simp [intOf]; omega
      · have hg : decide (0 < k) = true := decide_eq_true (by omega)
        have em : (k : Int) - 1 = ((k - 1 : Nat) : Int) := by omega
        have p1 := p0 (by omega)
        clear p0
        cases hlo : Op.bytesLess p.lo.toList t.lo.toList
        · have hle : (Op.bytesLess t.lo.toList p.lo.toList || t.lo.toList == p.lo.toList) = true := by rw [le_less, hlo]; rfl
          have H : Hid (¬ GoodS (tbs ts)) := fun q => by
            have h3 := (goodS_at q HA.out.2.1).up p.tb (by omega) (by rw [tbs_get, HP.out (by omega)]; rfl)
            have h4 : Op.bytesLess p.lo.toList t.lo.toList = true := h3
            rw [hlo] at h4
            cases h4
          go_upto_region 8 with fail
          rw [← hW1]
          clear hW1
          refine wp_region_out (by kernel_rfl) (by kernel_rfl) ?_
          repeat (go_big_quiet_step ((go_at_call 49; exact Calls.out_of (goodRuns_det t.b t.off t.cap t.l _ (HCA.out _ (Out.out _)).2.2.2.2.2.rms HA.out.2.2.ents (HCA.out _ (Out.out _)).2.2.2.2.2.lt hrl R HR.out))))
          refine wpQuiet_nil ?_
          rintro wy ⟨⟨wx, hby⟩, rfl⟩
          have hbyx : Below w.heap.size w wy := hbzx.trans (hby.mono (by omega))
          go_wp2_with fail
          go_ret
          exact ⟨_, rfl, iffF H.out, hbyx⟩
        · have HLO : Hid (Op.bytesLess p.lo.toList t.lo.toList = true) := hlo
          have hle : (Op.bytesLess t.lo.toList p.lo.toList || t.lo.toList == p.lo.toList) = false := by rw [le_less, hlo]; rfl
          go_upto_region 8 with fail
          rw [← hW1]
          clear hW1
          refine wp_region_out (by kernel_rfl) (by kernel_rfl) ?_
          repeat (go_big_quiet_step ((go_at_call 49; exact Calls.out_of (goodRuns_det t.b t.off t.cap t.l _ (HCA.out _ (Out.out _)).2.2.2.2.2.rms HA.out.2.2.ents (HCA.out _ (Out.out _)).2.2.2.2.2.lt hrl R HR.out))))
          refine wpQuiet_nil ?_
          rintro wy ⟨⟨wx, hby⟩, rfl⟩
          have sy := hby.size
          have hbyx : Below w.heap.size w wy := hbzx.trans (hby.mono (by omega))
          have hbyz : Below W0.heap.size W0 wy := hbz.trans (hby.mono (by omega))
          clear cR cU cS p1
          cases R
          · have H : Hid (¬ GoodS (tbs ts)) := fun q => Bool.noConfusion (HR.out.2 (goodS_at q HA.out.2.1).runs)
            go_wp2_with fail
            go_ret
            exact ⟨_, rfl, iffF H.out, hbyx⟩
          have HG : Hid (GoodRs (esM t.l)) := HR.out.1 rfl
          go_wp2_with fail
          go_loopw [6] (fun i wr => ∃ (j : Nat), j ≤ t.l.length ∧ i = .int .i64 j ∧ (∀ r ∈ t.l.take j, r.es ≠ [] ∧ ∀ e ∈ r.es, inR t.lo (hasN (tbs ts) k) (hiN (tbs ts) k) e.row = true) ∧ Below W1.heap.size W1 wr) (fun i _ => t.l.length - (intOf i).toNat)
          case atStart => exact ⟨0, Nat.zero_le _, rfl, by simp, hby⟩
          case round =>
            obtain ⟨wr_1, hw1⟩ : ∃ v : World, v = wr := ⟨_, rfl⟩
            subst hw1
            obtain ⟨j, hj, rfl, hvj, hbj⟩ := hrel
            have HJ : Hid (∀ r ∈ t.l.take j, r.es ≠ [] ∧ ∀ e ∈ r.es, inR t.lo (hasN (tbs ts) k) (hiN (tbs ts) k) e.row = true) := hvj
            have sj := hbj.size
            have hbjx : Below w.heap.size w wr_1 := hbzx.trans (hbj.mono (by omega))
            have hbjz : Below W0.heap.size W0 wr_1 := hbz.trans (hbj.mono (by omega))
            clear hvj
            obtain ⟨e0, e1, e2, e3, e4, e5⟩ := HCA.out wr_1 hbj
            have HTm : Hid (t.at wr_1) := e5
            clear e3 e5
            by_cases hjl : j < t.l.length
            · obtain ⟨r, hr⟩ : ∃ r, t.l[j]? = some r := ⟨_, List.getElem?_eq_getElem hjl⟩
              obtain ⟨f0, fa⟩ := HTm.out.rms j r hr
              have HRr : Hid (r.at wr_1 ∧ t.l[j]? = some r ∧ GoodR r.es) := ⟨fa, hr, goodRs_mem HG.out (List.mem_of_getElem? hr)⟩
              have hrr : r.es.length ≤ 1048576 := by have := HRr.out.2.2.1.1; omega
              clear fa hr
              have zj : (j : Int) < (t.l.length : Int) := by omega
              by_cases hemp : r.es.length = 0
              · have H : Hid (¬ GoodS (tbs ts)) := fun q => (rowsIn_mem (goodS_at q HA.out.2.1).rows (List.mem_of_getElem? HRr.out.2.1)).1 (List.eq_nil_of_length_eq_zero hemp)
                have hd0 : ((r.es.length : Int) == 0) = true := by rw [hemp]; rfl
                clear hemp
                go_wp2_with fail
                go_ret
                exact ⟨_, rfl, iffF H.out, hbjx⟩
              have hd0 : ((r.es.length : Int) == 0) = false := beq_eq_false_iff_ne.2 (by omega)
              have HM : Hid (¬ r.es.length = 0) := hemp
              clear hemp
              go_wp2_with fail
              go_loopw [8] (fun i wr => ∃ (m : Nat), m ≤ r.es.length ∧ i = .int .i64 m ∧ (∀ e ∈ r.es.take m, inR t.lo (hasN (tbs ts) k) (hiN (tbs ts) k) e.row = true) ∧ Below wr_1.heap.size wr_1 wr) (fun i _ => r.es.length - (intOf i).toNat)
              case atStart => exact ⟨0, Nat.zero_le _, rfl, by simp, Below.refl _ _⟩
              case round =>
                obtain ⟨wr_2, hw2⟩ : ∃ v : World, v = wr := ⟨_, rfl⟩
                subst hw2
                obtain ⟨m, hm, rfl, hvm, hbm⟩ := hrel
                have HMm : Hid (∀ e ∈ r.es.take m, inR t.lo (hasN (tbs ts) k) (hiN (tbs ts) k) e.row = true) := hvm
                have sm := hbm.size
                have hbmx : Below w.heap.size w wr_2 := hbjx.trans (hbm.mono (by omega))
                have hbmj : Below W1.heap.size W1 wr_2 := hbj.trans (hbm.mono (by omega))
                clear hvm
                by_cases hml : m < r.es.length
                · obtain ⟨x, hx⟩ : ∃ x, r.es[m]? = some x := ⟨_, List.getElem?_eq_getElem hml⟩
                  have q0 := (ents_out (HRr.out.1.ents.below hbm HRr.out.1.lt) (by have := HRr.out.1.lt; omega) hx).1
                  have HXx : Hid (r.es[m]? = some x) := hx
                  have qS : ∀ n : Out wr_2, n.u.cell? ⟨w.heap.size, 0, none⟩ = some (.slice (some ⟨b, off, none⟩) ts.length cap) := fun n => (HCA.out n.u (hbmj.trans (n.out.mono hbmj.size))).2.2.1
                  have HY : Hid (∀ n : Out wr_2, TmsAt n.u b off ts ∧ b < n.u.heap.size) := fun n => ⟨(HCA.out n.u (hbmj.trans (n.out.mono hbmj.size))).2.2.2.1, (HCA.out n.u (hbmj.trans (n.out.mono hbmj.size))).2.2.2.2.1⟩
                  clear hx
                  have zm : (m : Int) < (r.es.length : Int) := by omega
                  have inh2 : Nonempty (Out wr_2) := ⟨⟨wr_2, Below.refl _ _⟩⟩
                  go_upto_region 19 with fail
                  refine wp_region_out (by kernel_rfl) (by kernel_rfl) ?_
                  repeat (go_big_quiet_step ((first
                    | (go_at_call 24; exact Calls.out_of (specRange_core b off cap ts k t _ (HY.out _).1 (HY.out _).2 HA.out.2.1 hn))
                    | (go_at_call 50; exact Calls.out_of (specInRange_core t.lo (hiN (tbs ts) k) x.row (hasN (tbs ts) k) _)))))
                  refine wpQuiet_nil ?_
                  rintro wz ⟨⟨wx', hbz'⟩, rfl⟩
                  have hbw : Below w.heap.size w wz := hbmx.trans (hbz'.mono (by omega))
                  have hbw2 : Below wr_1.heap.size wr_1 wz := hbm.trans (hbz'.mono (by omega))
                  cases hin : inR t.lo (hasN (tbs ts) k) (hiN (tbs ts) k) x.row
                  · have H : Hid (¬ GoodS (tbs ts)) := fun q => by
                      have h3 := (rowsIn_mem (goodS_at q HA.out.2.1).rows (List.mem_of_getElem? HRr.out.2.1)).2 x (List.mem_of_getElem? HXx.out)
                      have h4 : inR t.lo (hasN (tbs ts) k) (hiN (tbs ts) k) x.row = true := h3
                      rw [hin] at h4
                      cases h4
                    go_wp2_with fail
                    go_ret
                    exact ⟨_, rfl, iffF H.out, hbw⟩
                  · have H : Hid (∀ e ∈ r.es.take (m + 1), inR t.lo (hasN (tbs ts) k) (hiN (tbs ts) k) e.row = true) := fun y hy => by
                      rcases mem_take_succ HXx.out hy with h | rfl
                      · exact HMm.out y h
                      · exact hin
                    go_wp2_with fail
                    go_roundw
                    case rel => exact ⟨m + 1, by omega, by go_num, H.out, hbw2⟩
                    case measure => go_light; simp [intOf]; omega
                · have zm : ¬ (m : Int) < (r.es.length : Int) := by omega
                  have H : Hid (∀ x ∈ t.l.take (j + 1), x.es ≠ [] ∧ ∀ e ∈ x.es, inR t.lo (hasN (tbs ts) k) (hiN (tbs ts) k) e.row = true) := fun y hy => by
                    rcases mem_take_succ HRr.out.2.1 hy with h | rfl
                    · exact HJ.out y h
                    · refine ⟨fun q => HM.out (by rw [q]; rfl), fun e he => HMm.out e ?_⟩
                      rw [List.take_of_length_le (by omega)]; exact he
                  go_wp2_with fail
                  go_roundw
                  case rel => exact ⟨j + 1, by omega, by go_num, H.out, hbmj⟩
                  case measure => go_light; simp [intOf]; omega
            · have zj : ¬ (j : Int) < (t.l.length : Int) := by omega
              have H : Hid (∀ j t, j < k + 1 → ts[j]? = some t → GoodT (tbs ts) j t.tb) := fun i u hi hu => by
                by_cases hjk : i < k
                · exact HV.out i u hjk hu
                · have : i = k := by omega
                  subst this
                  rw [HA.out.2.1] at hu
                  cases hu
                  refine ⟨?_, fun q hq0 hq => ?_, HG.out, rowsIn_of (fun r hr => HJ.out r (by rw [List.take_of_length_le (by omega)]; exact hr))⟩
                  · have := HL.out
                    show t.lo.size ≤ 64
                    omega
                  · rw [tbs_get, HP.out (by omega)] at hq
                    cases hq
                    exact HLO.out
              go_wp2_with fail
              go_roundw
              case rel => exact ⟨k + 1, by omega, by go_num, H.out, hbjz⟩
              case measure => go_light; simp [intOf]; omega
    · have zk : ¬ (k : Int) < (ts.length : Int) := by omega
      have H : Hid (GoodS (tbs ts)) := goodS_of (by omega) (by omega) HF.out (fun i t ht => HV.out i t (by have := (List.getElem?_eq_some_iff.1 ht).1; omega) ht)
      go_wp2_with fail
      go_ret
      exact ⟨_, rfl, iffT H.out, hbx⟩
theorem specValidStore_core (b off cap : Nat) (ts : List Tm) (w : World) (h : TmsAt w b off ts) (hok : okTs ts) (hB : b < w.heap.size) (hn : ts.length ≤ 1048576) :
    Calls Tryz.prog 21 #[.agg #[.slice (some ⟨b, off, none⟩) ts.length cap]] w fun e w' =>
      ∃ r : Bool, e = .returned (.bool r) ∧ (r = true ↔ GoodS (tbs ts)) ∧ Below w.heap.size w w' := specValidStore_say b off cap ts w h hok hB hn
end Go.Proofs.YtlgeffinhbodeafGreat

/-
  spec.MergeStore.
-/
namespace Go.Proofs.YtlgeffinhbodeafGreat
open Go.ChangeShapes Go.WideShapes Go.ChangeAt Go.RowKit Go.Deep
set_option linter.unusedVariables false
set_option linter.unusedSimpArgs false
set_option maxRecDepth 100000

/-- A store of the call's own, laid into the result's variable. -/
theorem st_in {w w3 : World} {base R : Nat} {v : Value} {xs : List Tx} (hR : w.heap.size ≤ R) (hRl : R < base) (h : OwnSt w3 base v xs) (hb : Below w.heap.size w w3) :
    ∃ va vn vc, v = .slice va vn vc ∧ CpSPost w (xs.map Tx.tb) (.returned (.agg #[.slice va vn vc])) (w3.setCell ⟨R, 0, none⟩ (.slice va vn vc)) := by
  obtain ⟨va, vn, vc, rfl⟩ : ∃ va vn vc, v = .slice va vn vc := by
    rcases h.row with ⟨_, a, c, q⟩ | ⟨g, cp, q, _⟩ <;> exact ⟨_, _, _, q⟩
  refine ⟨va, vn, vc, rfl, _, xs, rfl, ?_, rfl, hb.setCell hR _⟩
  have h5 := h.chg (Chg.of_set w3 R 0 (.slice va vn vc) (S := fun k => k = R) rfl) (fun k hk _ q => by omega)
  exact h5.mono (by omega)
theorem trow_mono {w : World} {base base' : Nat} {v : Value} {ts : List Tx} (h : OwnTRow w base v ts) (hb : base' ≤ base) : OwnTRow w base' v ts := by
  rcases h with h | ⟨g, cp, hv, hO⟩
  · exact .inl h
  · exact .inr ⟨g, cp, hv, row_mono hO hb⟩
/-- A copied row of runs. -/
structure CopyO (w : World) (base : Nat) (v : Value) (rs : List Rw) (ess : List (List Ent)) : Prop where
  row : w.ownsRow base 58 1 v (rs.map Rw.u).length (rs.map Rw.u)
  ents : ∀ r ∈ rs, OwnK w base r
  same : rs.map Rw.es = ess
theorem CopyO.below {w w' : World} {base : Nat} {v : Value} {rs : List Rw} {ess : List (List Ent)} (h : CopyO w base v rs ess) (hb : Below w.heap.size w w') : CopyO w' base v rs ess :=
  ⟨row_below h.row hb, fun r hr => (h.ents r hr).below hb, h.same⟩
theorem CopyO.mono {w : World} {base base' : Nat} {v : Value} {rs : List Rw} {ess : List (List Ent)} (h : CopyO w base v rs ess) (hb : base' ≤ base) : CopyO w base' v rs ess :=
  ⟨row_mono h.row hb, fun r hr => (h.ents r hr).mono hb, h.same⟩
/-- Two of them, one behind the other. -/
theorem CopyO.cat {w w' : World} {base : Nat} {v v2 v' : Value} {rs rs2 : List Rw} {e1 e2 : List (List Ent)} (h : CopyO w base v rs e1) (h2 : CopyO w base v2 rs2 e2) (hA : AppR w w' base v v' (rs.map Rw.u) (rs2.map Rw.u)) : CopyO w' base v' (rs ++ rs2) (e1 ++ e2) := by
  have hkk : ∀ x : Rw, OwnK w base x → OwnK w' base x := fun x hx => by
    refine hx.kept hA.grown (fun k' hk' q => ?_)
    rcases hx with ⟨h0, _⟩ | ⟨g2, cp2, h1, _, hE⟩
    · rw [h0] at hk'; cases hk'
    · rw [h1] at hk'
      have e3 : g2 = k' := Option.some.inj hk'
      subst e3
      exact own_apart h.row hE (by decide) _ q rfl
  refine ⟨by rw [List.map_append]; exact hA.row, fun r hr => ?_, by rw [List.map_append, h.same, h2.same]⟩
  rcases List.mem_append.1 hr with q | q
  · exact hkk r (h.ents r q)
  · exact hkk r (h2.ents r q)
theorem CopyO.ts {w : World} {base : Nat} {v : Value} {rs : List Rw} {ess : List (List Ent)} (h : CopyO w base v rs ess) (lo : ByteArray) : OwnTs w base [⟨lo, v, rs⟩] := by
  refine ⟨fun t ht => ?_, fun t ht => ?_⟩
  all_goals
    simp at ht
    subst ht
  · exact OwnRow.of h.row rfl
  · exact h.ents
/-- What MergeStore of spec hands back. -/
def MgSPost (w : World) (tb : List Tb) (row : ByteArray) (e : Ending) (w' : World) : Prop := ∃ out, MrgT tb row out ∧ CpSPost w out e w'

end Go.Proofs.YtlgeffinhbodeafGreat

/-
  impl.MergeStore.
-/
namespace Go.Proofs.YtlgeffinhbodeafGreat
open Go.ChangeShapes Go.WideShapes Go.ChangeAt Go.RowKit Go.Deep
set_option linter.unusedVariables false
set_option linter.unusedSimpArgs false
set_option maxRecDepth 100000

theorem tms_ty (ts : List Tm) : (ts.map Tm.ty).map Ty.tb = tbs ts := by
  unfold tbs
  rw [List.map_map]
  apply List.map_congr_left
  intro t _
  rfl
/-- Copied as it is, into the result's variable. -/
theorem copy_in {w w3 : World} {tb : List Tb} {e : Ending} {W : World} (R : Nat) (hb : Below w.heap.size w W) (hR : w.heap.size ≤ R) (hRl : R < W.heap.size) (h : CpIPost W tb e w3) :
    ∃ (g cp : Nat) (xs : List Tx), e = .returned (.agg #[.slice (some ⟨g, 0, none⟩) xs.length cp]) ∧ Below W.heap.size W w3 ∧ CpIPost w tb (.returned (.agg #[.slice (some ⟨g, 0, none⟩) xs.length cp])) (w3.setCell ⟨R, 0, none⟩ (.slice (some ⟨g, 0, none⟩) xs.length cp)) := by
  obtain ⟨g, cp, xs, rfl, hS, hA, hE, hb3⟩ := h
  refine ⟨g, cp, xs, rfl, hb3, g, cp, xs, rfl, ?_, hA, hE, (hb.trans (hb3.mono hb.size)).setCell hR _⟩
  have h5 := hS.chg (Chg.of_set w3 R 0 (.slice (some ⟨g, 0, none⟩) xs.length cp) (S := fun k => k = R) rfl) (fun k hk _ q => by omega)
  exact h5.mono hb.size

theorem inRms_cat {w : World} {base : Nat} {v : Value} {l : List Rm} (h : w.ownsRow base 58 1 v l.length (l.map Rm.u)) (hr : ∀ r ∈ l, r.at w) : InRms w v l := by
  rcases h.2 with ⟨q, q2⟩ | ⟨g, cp, cur, q, q2, q3, hc1, hc2, _⟩
  · exact .inl ⟨none, 0, q, List.eq_nil_of_length_eq_zero q2⟩
  · subst q
    refine .inr ⟨g, 0, cp, rfl, fun i r hi => ⟨?_, hr r (List.mem_of_getElem? hi)⟩, (World.ownsRow.lt h g rfl).2, hc1, hc2⟩
    have hl := (List.getElem?_eq_some_iff.1 hi).1
    have := World.ownsRow.cellAt h i (by omega)
    rw [List.getElem?_map, hi] at this
    rw [Nat.zero_add]
    exact this

theorem inRms_set {w : World} {va : Option Addr} {vn vc : Nat} {l : List Rm} {R o : Nat} {x : Value} (h : InRms w (.slice va vn vc) l) (hv : ∀ g, va = some g → g.block ≠ R ∨ l = []) (hl : ∀ r ∈ l, r.b ≠ R) : InRms (w.setCell ⟨R, o, none⟩ x) (.slice va vn vc) l := by
  rcases h with ⟨a, c, hq, rfl⟩ | ⟨b, off, cap, hq, hE, hlt, h1, h2⟩
  · exact .inl ⟨a, c, hq, rfl⟩
  · by_cases hn : l = []
    · subst hn
      exact .inl ⟨_, _, hq, rfl⟩
    · cases hq
      refine .inr ⟨b, off, vc, rfl, fun i r hi => ?_, by simpa using hlt, h1, h2⟩
      have hb : b ≠ R := (hv _ rfl).resolve_right hn
      have hr := hl r (List.mem_of_getElem? hi)
      obtain ⟨k1, k2⟩ := hE i r hi
      refine ⟨by rw [World.cell?_setCell_far _ _ _ _ (by exact fun q => hb q.symm)]; exact k1, ⟨fun j e he => ?_, by simpa using k2.lt, k2.len, k2.cap⟩⟩
      obtain ⟨q0, q1, q2, q3, q4, q5⟩ := k2.ents j e he
      refine ⟨?_, ?_, ?_, ?_, ?_, ?_⟩
      all_goals rw [World.cell?_setCell_far _ _ _ _ (by exact fun q => hr q.symm)]
      · exact q0
      · exact q1
      · exact q2
      · exact q3
      · exact q4
      · exact q5
/-- What MergeStore of impl hands back. -/
def MgIPost (w : World) (tb : List Tb) (row : ByteArray) (e : Ending) (w' : World) : Prop := ∃ out, MrgT tb row out ∧ CpIPost w out e w'

end Go.Proofs.YtlgeffinhbodeafGreat

/-
  toTablet, toTabletS, toStore.
-/
namespace Go.Proofs.YtlgeffinhbodeafGreat
open Go.ChangeShapes Go.WideShapes Go.ChangeAt Go.RowKit Go.Deep
set_option linter.unusedVariables false
set_option linter.unusedSimpArgs false
set_option maxRecDepth 100000

set_option maxHeartbeats 1000000 in
theorem toTablet_any (t : Tn) (w : World) (h : InRuns w t.u t.rs) (h1 : t.rs.length + tot t.rs ≤ 1048576) :
    Calls Tryz.prog 55 #[.agg #[.string t.lo, t.u]] w fun e w' =>
      ∃ (g : Nat) (l : List (Nat × List Ent)), e = .returned (.agg #[.string t.lo, .slice (some ⟨g, 0, none⟩) l.length l.length]) ∧ OwnRuns w' w.heap.size g l ∧ l.map Prod.snd = esOf t.rs ∧ l.length + totL l ≤ 1048576 ∧ Below w.heap.size w w' := by
  have HE : Hid (InRuns w t.u t.rs) := h
  have hu := h.ucells
  clear h
  go_enter Tryz.func55, Tryz.ntmps55
  go_wp2_with fail
  refine (toRuns_own t.u t.rs _ (HE.out.below ((((Below.refl _ _).alloc (Nat.le_refl _) _).alloc (by simp) _).alloc (by simp; omega) _)) h1).mono ?_
  rintro e w1 ⟨g, l, rfl, hO, hm, hn, hb1⟩
  obtain ⟨hc1, hf1⟩ := bcell hb1
  have k1 : Below w.heap.size w w1 := ((((Below.refl _ _).alloc (Nat.le_refl _) (Obj.cells #[.string t.lo, t.u] 83)).alloc (by simp) (Obj.cells #[.string ⟨#[]⟩, .slice none 0 0] 56)).alloc (by simp; omega) (Obj.cells #[.string t.lo, .slice none 0 0] 56)).trans (hb1.mono (by simp; omega))
  have HO : Hid (OwnRuns w1 (w.heap.size + 1 + 1 + 1) g l ∧ l.map Prod.snd = esOf t.rs ∧ l.length + totL l ≤ 1048576) := by
    refine ⟨?_, hm, hn⟩
    simpa using hO
  clear hO hm hn
  go_wp2_with fail
  refine bodyPost_ret (v := .agg #[.string t.lo, .slice (some ⟨g, 0, none⟩) l.length l.length]) (by simp [results, Tryz.results55, go_sem, hc1]) rfl ⟨g, l, rfl, ?_, HO.out.2.1, HO.out.2.2, ?_⟩
  · have hl := HO.out.1.lt.1
    exact (((HO.out.1.setNe _ _ _ (by omega)).setNe _ _ _ (by omega)).setNe _ _ _ (by omega)).mono (by omega)
  · exact ((k1.setCell (by show w.heap.size ≤ w.heap.size + 1 + 1; omega) _).setCell (by show w.heap.size ≤ w.heap.size + 1; omega) _).setCell (by show w.heap.size ≤ w.heap.size + 1; omega) _

theorem OwnTabs.setNe {w : World} {base g : Nat} {l : List Tw} (h : OwnTabs w base g l) (q o : Nat) (x : Value) (hq : q < g) : OwnTabs (w.setCell ⟨q, o, none⟩ x) base g l :=
  ⟨World.ownsRow.kept h.row (grown_set w q o x) (.inr (fun z => by have : g = q := Option.some.inj z; omega)), fun t ht => (h.tabs t ht).setNe _ _ _ (by have := h.ne t ht; omega), h.ne, h.up, h.short⟩
theorem OwnTabs.mono {w : World} {base base' g : Nat} {ts : List Tw} (h : OwnTabs w base g ts) (hb : base' ≤ base) : OwnTabs w base' g ts :=
  ⟨h.row.mono hb, fun t ht => (h.tabs t ht).mono hb, h.ne, h.up, h.short⟩

set_option maxHeartbeats 2000000 in
theorem toTabletS_any (v : Value) (ts : List Tn) (w : World) (h : InTabs w v ts) (h1 : ts.length + totT ts ≤ 1048576) :
    Calls Tryz.prog 26 #[v] w fun e w' =>
      ∃ (g : Nat) (l : List Tw), e = .returned (.slice (some ⟨g, 0, none⟩) l.length l.length) ∧ OwnTabs w' w.heap.size g l ∧ l.map Tw.tb = ts.map Tn.tb ∧ Below w.heap.size w w' := by
  obtain ⟨i, hi, hz0, hz1, hz2⟩ := info_parts Tryz.infoTab
  have HI : Hid (Tryz.prog.info? 56 = some i ∧ i.zero = some (.agg #[.string ⟨#[]⟩, .slice none 0 0]) ∧ i.size = 2 ∧ i.bytes = 40) := ⟨hi, hz0, hz1, hz2⟩
  clear hi hz0 hz1 hz2
  rcases h with ⟨a, cap, rfl, rfl⟩ | ⟨b, off, cap, rfl, hE, hB, hlen, hcap⟩
  · go_enter Tryz.func26, Tryz.ntmps26
    go_wp2_with (at_make; refine wpList_make_full _ rfl _ _ 28 rfl w.heap.size 56 i _ 2 Tryz.underlying28 HI.out.1 HI.out.2.1 HI.out.2.2.1 _ _ _ _ 0 rfl rfl ?_ ?_ ?hb ?hm ?hs ?_)
    case hb => rw [HI.out.2.2.2]; omega
    case hm => unfold maxLen; omega
    case hs => exact Nat.le_refl _
    · rfl
    · rfl
    intro w1 hown hgrow
    have HW : Hid (OwnP w1 w.heap.size w.heap.size 0 []) := by
      have h0 := made_tabs 0
      rw [Nat.zero_mul] at h0
      rw [h0] at hown
      exact hown
    have hb1 : Below w.heap.size w w1 := (Below.refl _ _).grown hgrow (Nat.le_refl _) (fun k hk => by cases hk)
    clear hown hgrow
    go_wp2_with fail
    go_loopw [4] (fun i wr => i = .int .i64 0 ∧ wr = w1) (fun i _ => 0)
    case atStart => exact ⟨rfl, rfl⟩
    case round =>
      obtain ⟨rfl, rfl⟩ := hrel
      go_wp2_with fail
      go_ret
      exact ⟨_, [], rfl, ⟨HW.out, fun p hp => by simp at hp, fun p hp => by simp at hp, List.Pairwise.nil, fun p hp => by simp at hp⟩, rfl, hb1⟩
  · have HE : Hid (TabsAt w b off ts) := hE
    clear hE
    unfold maxLen at hcap
    go_enter Tryz.func26, Tryz.ntmps26
    go_wp2_with (at_make; refine wpList_make_full _ rfl _ _ 28 rfl w.heap.size 56 i _ 2 Tryz.underlying28 HI.out.1 HI.out.2.1 HI.out.2.2.1 _ _ _ _ ts.length rfl rfl ?_ ?_ ?hb ?hm ?hs ?_)
    case hb => rw [HI.out.2.2.2]; omega
    case hm => unfold maxLen; omega
    case hs => exact Nat.le_refl _
    · rfl
    · rfl
    intro w1 hown hgrow
    rw [made_tabs] at hown
    have hown1 : OwnP w1 w.heap.size w.heap.size ts.length (List.replicate ts.length zeroP) := by
      unfold OwnP; rw [List.length_replicate]; exact hown
    have HW : Hid (OwnP w1 w.heap.size w.heap.size ts.length (List.replicate ts.length zeroP)) := hown1
    have hb1 : Below w.heap.size w w1 := (Below.refl _ _).grown hgrow (Nat.le_refl _) (fun k hk => by cases hk)
    have hs1 := hown1.lt.2
    clear hown hown1 hgrow
    go_wp2_with fail
    go_loopw [4] (fun i wr => ∃ (k : Nat) (l : List Tw), k ≤ ts.length ∧ i = .int .i64 k ∧ l.length = k ∧ l.map Tw.tb = (ts.take k).map Tn.tb ∧ OwnP wr w.heap.size w.heap.size ts.length (l.map Tw.pr ++ List.replicate (ts.length - k) zeroP) ∧
        (∀ t ∈ l, OwnRuns wr w.heap.size t.g t.l ∧ w.heap.size < t.g ∧ t.l.length + totL t.l ≤ 1048576) ∧ l.Pairwise (fun a b => a.g < b.g ∧ ∀ p ∈ a.l, p.1 < b.g) ∧ Below w.heap.size w wr) (fun i _ => ts.length - (intOf i).toNat)
    case atStart => exact ⟨0, [], Nat.zero_le _, rfl, rfl, rfl, HW.out, fun p hp => by simp at hp, List.Pairwise.nil, hb1⟩
    case round =>
      obtain ⟨k, l, hk, rfl, hlk, hes, hR, hO, hup, hb⟩ := hrel
      have HL : Hid (l.length = k ∧ l.map Tw.tb = (ts.take k).map Tn.tb ∧ OwnP wr w.heap.size w.heap.size ts.length (l.map Tw.pr ++ List.replicate (ts.length - k) zeroP) ∧
        (∀ t ∈ l, OwnRuns wr w.heap.size t.g t.l ∧ w.heap.size < t.g ∧ t.l.length + totL t.l ≤ 1048576) ∧ l.Pairwise (fun a b => a.g < b.g ∧ ∀ p ∈ a.l, p.1 < b.g)) := ⟨hlk, hes, hR, hO, hup⟩
      have hg := hR.lt
      have hsz := hb.size
      clear hlk hes hR hO hup
      by_cases hlt : k < ts.length
      · obtain ⟨t, ht⟩ : ∃ t, ts[k]? = some t := ⟨_, List.getElem?_eq_getElem hlt⟩
        obtain ⟨c0, c1, hin⟩ := (HE.out.below hb hB) k t ht
        have HR : Hid (ts[k]? = some t ∧ InRuns wr t.u t.rs ∧ t.rs.length + tot t.rs ≤ 1048576) := ⟨ht, hin, wt_le (by have := totT_mem ht; omega)⟩
        clear ht hin
        go_wp2_with fail
        refine (toTablet_any t _ HR.out.2.1 HR.out.2.2).mono ?_
        rintro e w2 ⟨g', l', rfl, hO', hm', hn', hb2⟩
        have hR2 := HL.out.2.2.1.below hb2 hg.2
        have hs2 := hb2.size
        have hg' := hO'.lt
        have hul : (l.map Tw.pr).length = k := by simp [HL.out.1]
        have hz : (l.map Tw.pr ++ List.replicate (ts.length - k) zeroP)[k]? = some zeroP := by
          rw [List.getElem?_append_right (by omega), hul, Nat.sub_self, List.getElem?_replicate, if_pos (by omega)]
        obtain ⟨d0, d1⟩ := hR2.cells hz
        have hfz := fun j => World.ownsRow.frozenAt hR2 j
        unfold zeroP at d0 d1
        simp only at d0 d1
        have HN : Hid (∃ L : List Tw, L.length = k + 1 ∧ L.map Tw.tb = (ts.take (k + 1)).map Tn.tb ∧ OwnP ((w2.setCell ⟨w.heap.size, k * 2, none⟩ (.string t.lo)).setCell ⟨w.heap.size, k * 2 + 1, none⟩ (.slice (some ⟨g', 0, none⟩) l'.length l'.length)) w.heap.size w.heap.size ts.length (L.map Tw.pr ++ List.replicate (ts.length - (k + 1)) zeroP) ∧
            (∀ t' ∈ L, OwnRuns ((w2.setCell ⟨w.heap.size, k * 2, none⟩ (.string t.lo)).setCell ⟨w.heap.size, k * 2 + 1, none⟩ (.slice (some ⟨g', 0, none⟩) l'.length l'.length)) w.heap.size t'.g t'.l ∧ w.heap.size < t'.g ∧ t'.l.length + totL t'.l ≤ 1048576) ∧ L.Pairwise (fun a b => a.g < b.g ∧ ∀ p ∈ a.l, p.1 < b.g)) := by
          refine ⟨l ++ [⟨t.lo, g', l'⟩], by simp [HL.out.1], ?_, ?_, ?_, ?_⟩
          · rw [tbs_take HR.out.1, List.map_append, HL.out.2.1]
            show _ ++ [Tb.mk t.lo (l'.map Prod.snd)] = _ ++ [Tb.mk t.lo (esOf t.rs)]
            rw [hm']
          · have := hR2.put k zeroP (t.lo, .slice (some ⟨g', 0, none⟩) l'.length l'.length) hz
            rw [← prs_set (t := ⟨t.lo, g', l'⟩) HL.out.1 hlt]; exact this
          · intro p hp
            rcases List.mem_append.1 hp with hp | hp
            · obtain ⟨q1, q2, q3⟩ := HL.out.2.2.2.1 p hp
              exact ⟨((q1.below hb2).setNe _ _ _ q2).setNe _ _ _ q2, q2, q3⟩
            · simp at hp
              subst hp
              exact ⟨((hO'.setNe _ _ _ (by omega)).setNe _ _ _ (by omega)).mono (by omega), by show w.heap.size < g'; omega, hn'⟩
          · refine List.pairwise_append.2 ⟨HL.out.2.2.2.2, by simp, fun p hp q hq => ?_⟩
            simp at hq
            subst hq
            obtain ⟨q1, q2, q3⟩ := HL.out.2.2.2.1 p hp
            refine ⟨?_, fun x hx => ?_⟩
            · have := q1.lt
              show p.g < g'
              omega
            · have := (q1.rows.2 x hx).lt
              show x.1 < g'
              omega
        have hb3 : Below w.heap.size w ((w2.setCell ⟨w.heap.size, k * 2, none⟩ (.string t.lo)).setCell ⟨w.heap.size, k * 2 + 1, none⟩ (.slice (some ⟨g', 0, none⟩) l'.length l'.length)) := ((hb.trans (hb2.mono hsz)).setCell (by show w.heap.size ≤ w.heap.size; omega) _).setCell (by show w.heap.size ≤ w.heap.size; omega) _
        clear hR2 hO' hb2 c0 c1 hul hz hm' hn'
        go_wp2_with fail
        go_roundw
        case rel =>
          go_light
          obtain ⟨L, a1, a2, a3, a4, a5⟩ := HN.out
          exact ⟨k + 1, L, by omega, by go_num, a1, a2, a3, a4, a5, hb3⟩
        case measure => simp [intOf]; omega
      · have hkr : k = ts.length := by omega
        have HF : Hid (l.length = ts.length ∧ l.map Tw.tb = ts.map Tn.tb ∧ OwnP wr w.heap.size w.heap.size ts.length (l.map Tw.pr)) := by
          have h2 := HL.out.2.1
          have h3 := HL.out.2.2.1
          rw [List.take_of_length_le (by omega)] at h2
          rw [show ts.length - k = 0 by omega] at h3
          simp at h3
          exact ⟨by rw [HL.out.1, hkr], h2, h3⟩
        clear hkr
        go_wp2_with fail
        go_ret
        refine ⟨_, l, ?_, ⟨?_, fun t ht => (HL.out.2.2.2.1 t ht).1, fun t ht => (HL.out.2.2.2.1 t ht).2.1, HL.out.2.2.2.2, fun t ht => (HL.out.2.2.2.1 t ht).2.2⟩, HF.out.2.1, hb⟩
        · rw [HF.out.1]; rfl
        · rw [HF.out.1]; exact HF.out.2.2

set_option maxHeartbeats 400000 in
theorem toStore_any (u : Value) (ts : List Tn) (w : World) (h : InTabs w u ts) (h1 : ts.length + totT ts ≤ 1048576) :
    Calls Tryz.prog 8 #[.agg #[u]] w fun e w' =>
      ∃ (g : Nat) (l : List Tw), e = .returned (.agg #[.slice (some ⟨g, 0, none⟩) l.length l.length]) ∧ OwnTabs w' w.heap.size g l ∧ l.map Tw.tb = ts.map Tn.tb ∧ Below w.heap.size w w' := by
  have HE : Hid (InTabs w u ts) := h
  have hu := h.ucells
  clear h
  go_enter Tryz.func8, Tryz.ntmps8
  go_wp2_with fail
  refine (toTabletS_any u ts _ (HE.out.below ((((Below.refl _ _).alloc (Nat.le_refl _) _).alloc (by simp) _).alloc (by simp; omega) _)) h1).mono ?_
  rintro e w1 ⟨g, l, rfl, hO, hm, hb1⟩
  obtain ⟨hc1, hf1⟩ := bcell hb1
  have k1 : Below w.heap.size w w1 := ((((Below.refl _ _).alloc (Nat.le_refl _) (Obj.cells #[u] 24)).alloc (by simp) (Obj.cells #[.slice none 0 0] 30)).alloc (by simp; omega) (Obj.cells #[.slice none 0 0] 30)).trans (hb1.mono (by simp; omega))
  have HO : Hid (OwnTabs w1 (w.heap.size + 1 + 1 + 1) g l ∧ l.map Tw.tb = ts.map Tn.tb) := by
    refine ⟨?_, hm⟩
    simpa using hO
  clear hO hm
  go_wp2_with fail
  refine bodyPost_ret (v := .agg #[.slice (some ⟨g, 0, none⟩) l.length l.length]) (by simp [results, Tryz.results8, go_sem, hc1]) rfl ⟨g, l, rfl, ?_, HO.out.2, ?_⟩
  · have hl := HO.out.1.lt.1
    exact ((HO.out.1.setNe _ _ _ (by omega)).setNe _ _ _ (by omega)).mono (by omega)
  · exact (k1.setCell (by show w.heap.size ≤ w.heap.size + 1 + 1; omega) _).setCell (by show w.heap.size ≤ w.heap.size + 1; omega) _
end Go.Proofs.YtlgeffinhbodeafGreat

