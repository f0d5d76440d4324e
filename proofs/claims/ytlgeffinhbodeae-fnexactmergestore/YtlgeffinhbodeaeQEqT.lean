/-
  eqRunS, eqTablet, eqTabletS, eqStore over what reads alike.
-/
import Derived.Test.YtlgeffinhbodeaeQTabs
import Derived.Test.YtlgeffinhbodeaeQSub
namespace Go.Proofs.Ytlgeffinhbodeae
open Go.ChangeShapes Go.WideShapes Go.ChangeAt Go.RowKit Go.Deep
set_option linter.unusedVariables false
set_option linter.unusedSimpArgs false
set_option maxRecDepth 100000

theorem runsAt_out {w : World} {b off m : Nat} {l : List Rn} {r : Rn} (h : RunsAt w b off l) (hb : b < w.heap.size) (hr : l[m]? = some r) : (∀ n : Out w, n.u.cell? ⟨b, off + m, none⟩ = some r.u) ∧ ∀ n : Out w, InEnts n.u r.u r.es :=
  ⟨fun n => (h.below n.out hb m r hr).1, fun n => (h.below n.out hb m r hr).2⟩

set_option maxHeartbeats 2000000 in
theorem eqRunS_zero (a a' : Option Addr) (cap cap' : Nat) (w : World) :
    Calls Try.prog 155 #[.slice a 0 cap, .slice a' 0 cap'] w fun e w' => e = .returned (.bool true) ∧ Below w.heap.size w w' := by
  go_enter Try.func155, Try.ntmps155
  go_wp2_with fail
  go_loopw [5] (fun i wr => i = .int .i64 0 ∧ wr = w) (fun i _ => 0)
  case atStart => exact ⟨rfl, rfl⟩
  case round =>
    obtain ⟨rfl, rfl⟩ := hrel
    go_wp2_with fail
    go_ret
    exact ⟨rfl, Below.refl _ _⟩

set_option maxHeartbeats 2000000 in
theorem eqRunS_in (b off cap b' off' cap' : Nat) (l l' : List Rn) (w : World) (h : RunsAt w b off l) (h' : RunsAt w b' off' l') (hB : b < w.heap.size) (hB' : b' < w.heap.size) (he : esOf l = esOf l') (hn : l.length ≤ maxLen) :
    Calls Try.prog 155 #[.slice (some ⟨b, off, none⟩) l.length cap, .slice (some ⟨b', off', none⟩) l'.length cap'] w fun e w' => e = .returned (.bool true) ∧ Below w.heap.size w w' := by
  unfold maxLen at hn
  have hll : l'.length = l.length := by have := congrArg List.length he; simpa [esOf] using this.symm
  rw [hll]
  have HE : Hid (RunsAt w b off l ∧ RunsAt w b' off' l' ∧ esOf l = esOf l' ∧ l'.length = l.length) := ⟨h, h', he, hll⟩
  clear h h' he hll
  go_enter Try.func155, Try.ntmps155
  go_wp2_with fail
  go_loopw [5] (fun i wr => ∃ k : Nat, k ≤ l.length ∧ i = .int .i64 k ∧ Below w.heap.size w wr) (fun i _ => l.length - (intOf i).toNat)
  case atStart => exact ⟨0, Nat.zero_le _, rfl, Below.refl _ _⟩
  case round =>
    obtain ⟨k, hk, rfl, hb⟩ := hrel
    have hs := hb.size
    by_cases hlt : k < l.length
    · obtain ⟨r, hr⟩ : ∃ r, l[k]? = some r := ⟨_, List.getElem?_eq_getElem hlt⟩
      obtain ⟨r', hr'⟩ : ∃ r', l'[k]? = some r' := ⟨_, List.getElem?_eq_getElem (by have := HE.out.2.2.2; omega)⟩
      have hes : r'.es = r.es := by
        have h1 := congrArg (fun x => x[k]?) HE.out.2.2.1
        simp only [esOf, List.getElem?_map, hr, hr'] at h1
        simpa using h1.symm
      obtain ⟨y0, y1⟩ := runsAt_out (HE.out.1.below hb hB) (by omega) hr
      obtain ⟨z0, z1⟩ := runsAt_out (HE.out.2.1.below hb hB') (by omega) hr'
      have HY : Hid (∀ n : Out wr, InEnts n.u r.u r.es ∧ InEnts n.u r'.u r.es) := fun n => ⟨y1 n, by
        have h := z1 n
        rw [hes] at h
        exact h⟩
      clear y1 z1 hr hr' hes
      have zk : (k : Int) < (l.length : Int) := by omega
      have inh : Nonempty (Out wr) := ⟨⟨wr, Below.refl _ _⟩⟩
      go_upto_region 6 with fail
      refine wp_region_out (by kernel_rfl) (by kernel_rfl) ?_
      repeat (go_big_quiet_step ((go_at_call 179; exact Calls.out_of (eqRun_any _ _ r.es _ (HY.out _).1 (HY.out _).2))))
      refine wpQuiet_nil ?_
      rintro wy ⟨⟨wx, hby⟩, rfl⟩
      have hb2 := hb.trans (hby.mono hs)
      clear y0 z0
      go_wp2_with fail
      go_roundw
      case rel => exact ⟨k + 1, by omega, by go_num, hb2⟩
      case measure => go_light; simp [intOf]; omega
    · have zk : ¬ (k : Int) < (l.length : Int) := by omega
      go_wp2_with fail
      go_ret
      exact ⟨rfl, hb⟩

theorem InRuns.len_le {w : World} {v : Value} {rs : List Rn} (h : InRuns w v rs) : rs.length ≤ maxLen := by
  rcases h with ⟨_, _, _, rfl⟩ | ⟨b, off, cap, _, _, _, h1, h2⟩
  · simp
  · omega
theorem esOf_len {l l' : List Rn} (h : esOf l = esOf l') : l.length = l'.length := by have := congrArg List.length h; simpa [esOf] using this
theorem eqRunS_any (v v' : Value) (l l' : List Rn) (w : World) (h : InRuns w v l) (h' : InRuns w v' l') (he : esOf l = esOf l') :
    Calls Try.prog 155 #[v, v'] w fun e w' => e = .returned (.bool true) ∧ Below w.heap.size w w' := by
  have hm := h.len_le
  have hll := esOf_len he
  rcases h with ⟨a, cap, rfl, rfl⟩ | ⟨b, off, cap, rfl, hE, hB, hlen, hcap⟩
  · rcases h' with ⟨a', cap', rfl, _⟩ | ⟨b', off', cap', rfl, _, _, _, _⟩
    · exact eqRunS_zero _ _ _ _ w
    · rw [← hll]; exact eqRunS_zero _ _ _ _ w
  · rcases h' with ⟨a', cap', rfl, rfl⟩ | ⟨b', off', cap', rfl, hE', hB', hlen', hcap'⟩
    · rw [hll]; exact eqRunS_zero _ _ _ _ w
    · exact eqRunS_in b off cap b' off' cap' l l' w hE hE' hB hB' he hm

set_option maxHeartbeats 2000000 in
theorem eqTablet_any (lo : ByteArray) (v v' : Value) (l l' : List Rn) (w : World) (h : InRuns w v l) (h' : InRuns w v' l') (he : esOf l = esOf l') :
    Calls Try.prog 123 #[.agg #[.string lo, v], .agg #[.string lo, v']] w fun e w' => e = .returned (.bool true) ∧ Below w.heap.size w w' := by
  have HE : Hid (InRuns w v l ∧ InRuns w v' l' ∧ esOf l = esOf l') := ⟨h, h', he⟩
  have hu := h.ucells
  have hu' := h'.ucells
  clear h h' he
  go_enter Try.func123, Try.ntmps123
  go_wp2_with fail
  have k0 : Below w.heap.size w ((w.alloc (Obj.cells #[.string lo, v] 133)).alloc (Obj.cells #[.string lo, v'] 133)) := ((Below.refl _ _).alloc (Nat.le_refl _) _).alloc (by simp) _
  refine (eqRunS_any v v' l l' _ (HE.out.1.below k0) (HE.out.2.1.below k0) HE.out.2.2).mono ?_
  rintro e w1 ⟨rfl, hb1⟩
  go_wp2_with fail
  go_ret
  exact ⟨rfl, k0.trans (hb1.mono (by simp; omega))⟩

theorem tabsAt_out {w : World} {b off m : Nat} {l : List Tn} {r : Tn} (h : TabsAt w b off l) (hb : b < w.heap.size) (hr : l[m]? = some r) : (∀ n : Out w, n.u.cell? ⟨b, off + m * 2, none⟩ = some (.string r.lo)) ∧ (∀ n : Out w, n.u.cell? ⟨b, off + m * 2 + 1, none⟩ = some r.u) ∧ ∀ n : Out w, InRuns n.u r.u r.rs :=
  ⟨fun n => (h.below n.out hb m r hr).1, fun n => (h.below n.out hb m r hr).2.1, fun n => (h.below n.out hb m r hr).2.2⟩
/-- What tablets read as. -/
def vwT (ts : List Tn) : List (ByteArray × List (List Ent)) := ts.map fun t => (t.lo, esOf t.rs)
theorem vwT_len {l l' : List Tn} (h : vwT l = vwT l') : l.length = l'.length := by have := congrArg List.length h; simpa [vwT] using this

set_option maxHeartbeats 2000000 in
theorem eqTabletS_zero (a a' : Option Addr) (cap cap' : Nat) (w : World) :
    Calls Try.prog 83 #[.slice a 0 cap, .slice a' 0 cap'] w fun e w' => e = .returned (.bool true) ∧ Below w.heap.size w w' := by
  go_enter Try.func83, Try.ntmps83
  go_wp2_with fail
  go_loopw [5] (fun i wr => i = .int .i64 0 ∧ wr = w) (fun i _ => 0)
  case atStart => exact ⟨rfl, rfl⟩
  case round =>
    obtain ⟨rfl, rfl⟩ := hrel
    go_wp2_with fail
    go_ret
    exact ⟨rfl, Below.refl _ _⟩

set_option maxHeartbeats 2000000 in
theorem eqTabletS_in (b off cap b' off' cap' : Nat) (l l' : List Tn) (w : World) (h : TabsAt w b off l) (h' : TabsAt w b' off' l') (hB : b < w.heap.size) (hB' : b' < w.heap.size) (he : vwT l = vwT l') (hn : l.length ≤ maxLen) :
    Calls Try.prog 83 #[.slice (some ⟨b, off, none⟩) l.length cap, .slice (some ⟨b', off', none⟩) l'.length cap'] w fun e w' => e = .returned (.bool true) ∧ Below w.heap.size w w' := by
  unfold maxLen at hn
  have hll : l'.length = l.length := (vwT_len he).symm
  rw [hll]
  have HE : Hid (TabsAt w b off l ∧ TabsAt w b' off' l' ∧ vwT l = vwT l' ∧ l'.length = l.length) := ⟨h, h', he, hll⟩
  clear h h' he hll
  go_enter Try.func83, Try.ntmps83
  go_wp2_with fail
  go_loopw [5] (fun i wr => ∃ k : Nat, k ≤ l.length ∧ i = .int .i64 k ∧ Below w.heap.size w wr) (fun i _ => l.length - (intOf i).toNat)
  case atStart => exact ⟨0, Nat.zero_le _, rfl, Below.refl _ _⟩
  case round =>
    obtain ⟨k, hk, rfl, hb⟩ := hrel
    have hs := hb.size
    by_cases hlt : k < l.length
    · obtain ⟨r, hr⟩ : ∃ r, l[k]? = some r := ⟨_, List.getElem?_eq_getElem hlt⟩
      obtain ⟨r', hr'⟩ : ∃ r', l'[k]? = some r' := ⟨_, List.getElem?_eq_getElem (by have := HE.out.2.2.2; omega)⟩
      obtain ⟨hlo, hes⟩ : r'.lo = r.lo ∧ esOf r.rs = esOf r'.rs := by
        have h1 := congrArg (fun x => x[k]?) HE.out.2.2.1
        simp only [vwT, List.getElem?_map, hr, hr'] at h1
        simp at h1
        exact ⟨h1.1.symm, h1.2⟩
      obtain ⟨y0, y0', y1⟩ := tabsAt_out (HE.out.1.below hb hB) (by omega) hr
      obtain ⟨z0, z0', z1⟩ := tabsAt_out (HE.out.2.1.below hb hB') (by omega) hr'
      rw [hlo] at z0
      have HY : Hid (esOf r.rs = esOf r'.rs ∧ ∀ n : Out wr, InRuns n.u r.u r.rs ∧ InRuns n.u r'.u r'.rs) := ⟨hes, fun n => ⟨y1 n, z1 n⟩⟩
      clear y1 z1 hr hr' hes hlo
      have zk : (k : Int) < (l.length : Int) := by omega
      have inh : Nonempty (Out wr) := ⟨⟨wr, Below.refl _ _⟩⟩
      go_upto_region 6 with fail
      refine wp_region_out (by kernel_rfl) (by kernel_rfl) ?_
      repeat (go_big_quiet_step ((go_at_call 123; exact Calls.out_of (eqTablet_any r.lo _ _ r.rs r'.rs _ (HY.out.2 _).1 (HY.out.2 _).2 HY.out.1))))
      refine wpQuiet_nil ?_
      rintro wy ⟨⟨wx, hby⟩, rfl⟩
      have hb2 := hb.trans (hby.mono hs)
      clear y0 y0' z0 z0'
      go_wp2_with fail
      go_roundw
      case rel => exact ⟨k + 1, by omega, by go_num, hb2⟩
      case measure => go_light; simp [intOf]; omega
    · have zk : ¬ (k : Int) < (l.length : Int) := by omega
      go_wp2_with fail
      go_ret
      exact ⟨rfl, hb⟩

theorem eqTabletS_any (v v' : Value) (l l' : List Tn) (w : World) (h : InTabs w v l) (h' : InTabs w v' l') (he : vwT l = vwT l') :
    Calls Try.prog 83 #[v, v'] w fun e w' => e = .returned (.bool true) ∧ Below w.heap.size w w' := by
  have hll := vwT_len he
  rcases h with ⟨a, cap, rfl, rfl⟩ | ⟨b, off, cap, rfl, hE, hB, hlen, hcap⟩
  · rcases h' with ⟨a', cap', rfl, _⟩ | ⟨b', off', cap', rfl, _, _, _, _⟩
    · exact eqTabletS_zero _ _ _ _ w
    · rw [← hll]; exact eqTabletS_zero _ _ _ _ w
  · rcases h' with ⟨a', cap', rfl, rfl⟩ | ⟨b', off', cap', rfl, hE', hB', hlen', hcap'⟩
    · rw [hll]; exact eqTabletS_zero _ _ _ _ w
    · exact eqTabletS_in b off cap b' off' cap' l l' w hE hE' hB hB' he (by omega)

set_option maxHeartbeats 2000000 in
theorem eqStore_any (v v' : Value) (l l' : List Tn) (w : World) (h : InTabs w v l) (h' : InTabs w v' l') (he : vwT l = vwT l') :
    Calls Try.prog 29 #[.agg #[v], .agg #[v']] w fun e w' => e = .returned (.bool true) ∧ Below w.heap.size w w' := by
  have HE : Hid (InTabs w v l ∧ InTabs w v' l' ∧ vwT l = vwT l') := ⟨h, h', he⟩
  have hu := h.ucells
  have hu' := h'.ucells
  clear h h' he
  go_enter Try.func29, Try.ntmps29
  go_wp2_with fail
  have k0 : Below w.heap.size w ((w.alloc (Obj.cells #[v] 66)).alloc (Obj.cells #[v'] 66)) := ((Below.refl _ _).alloc (Nat.le_refl _) _).alloc (by simp) _
  refine (eqTabletS_any v v' l l' _ (HE.out.1.below k0) (HE.out.2.1.below k0) HE.out.2.2).mono ?_
  rintro e w1 ⟨rfl, hb1⟩
  go_wp2_with fail
  go_ret
  exact ⟨rfl, k0.trans (hb1.mono (by simp; omega))⟩
end Go.Proofs.Ytlgeffinhbodeae
