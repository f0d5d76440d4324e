/-
  impl.readPattern, impl.CheckRegex.
-/
import Derived.Test.YthkmecppjhcidacPk
namespace Go.Proofs.Ythkmecppjhcidac
open Go.ChangeShapes Go.WideShapes Go.ChangeAt Go.RowKit Go.Deep
set_option linter.unusedVariables false
set_option linter.unusedSimpArgs false
set_option maxRecDepth 100000

set_option maxHeartbeats 4000000 in
theorem readPattern_core (p : ByteArray) (w : World) (hpm : p.size ≤ maxLen) : Calls Try.prog 116 #[.string p] w fun e w' => ReadPost p w e w' := by
  have hmf : ∀ (fn : Fn) (first cap : Array Value) (w : World), (Instr.makeFunc fn first cap).run Try.prog w = .ok (.func fn first cap) w := fun _ _ _ _ => rfl
  obtain ⟨W0, hW0⟩ : ∃ W0 : World, W0 = (w.alloc (Obj.cells #[.slice none 0 0] 162)).alloc (Obj.cells #[.int .i64 0, .int .i64 0] 118) := ⟨_, rfl⟩
  have HW0 : Hid (BoxAt W0 w.heap.size 162 1 w.heap.size [.slice none 0 0] ∧ BoxAt W0 w.heap.size 118 2 (w.heap.size + 1) [.int .i64 0, .int .i64 0] ∧ Below w.heap.size w W0 ∧ W0.heap.size = w.heap.size + 2) := by
    rw [hW0]
    refine ⟨BoxAt.ofHeap (vs := #[.slice none 0 0]) (heap_alloc2_old w _ _) (Nat.le_refl _) rfl, BoxAt.ofHeap (vs := #[.int .i64 0, .int .i64 0]) (heap_alloc2_new w _ _) (by omega) rfl, ((Below.refl _ _).alloc (Nat.le_refl _) _).alloc (by simp) _, by simp⟩
  unfold maxLen at hpm
  by_cases hp : 200 < p.size
  · have HM : Hid (checkM (sb p) = (1, 0)) := by
      show checkM (sb p) = _
      unfold checkM; rw [if_pos (by rw [sb_len]; exact hp)]
    have z : ¬ (p.size : Int) ≤ 200 := by omega
    have z2 : (200 : Int) < (p.size : Int) := by omega
    go_enter_defers Try.func116, Try.ntmps116
    go_upto_region 1 with fail
    rw [← hW0]
    clear hW0
    have r0 := HW0.out.1.cell (j := 0) rfl
    have rf := HW0.out.1.frozen 0
    have e0 := HW0.out.2.1.cell (j := 0) rfl
    have e1 := HW0.out.2.1.cell (j := 1) rfl
    have f0 := HW0.out.2.1.frozen 0
    have f1 := HW0.out.2.1.frozen 1
    obtain ⟨W1, hW1⟩ : ∃ W1 : World, W1 = ((W0.setCell ⟨w.heap.size, 0, none⟩ (.slice none 0 0)).setCell ⟨w.heap.size + 1, 0, none⟩ (.int .i64 1)).setCell ⟨w.heap.size + 1, 1, none⟩ (.int .i64 0) := ⟨_, rfl⟩
    have HW1 : Hid (BoxAt W1 w.heap.size 162 1 w.heap.size [.slice none 0 0] ∧ BoxAt W1 w.heap.size 118 2 (w.heap.size + 1) [.int .i64 1, .int .i64 0] ∧ Below w.heap.size w W1) := by
      rw [hW1]
      exact ⟨(((HW0.out.1.set 0 _).beside (by omega) 0 _).beside (by omega) 1 _), (((HW0.out.2.1.beside (by omega) 0 _).set 0 _).set 1 _), below_set (below_set (below_set HW0.out.2.2.1 (Nat.le_refl _) 0 _) (by omega) 0 _) (by omega) 1 _⟩
    go_wp2_with fail
    rw [← hW1]
    show Leaves Try.prog Try.f116 _ (fun e w' => ReadPost p w e w') [] .returning W1
    refine ⟨_, rp_res (a := { tmps := _, defers := [] }) rfl rfl rfl HW1.out.1 HW1.out.2.1, .slice none 0 0, by rw [HM.out]; rfl, HW1.out.2.2, .inr ⟨by rw [HM.out]; decide, rfl⟩⟩
  have hp2 : p.size ≤ 200 := by omega
  have HM : Hid (checkM (sb p) = chkM (sb p) 0 0 false) := by
    show checkM (sb p) = _
    unfold checkM; rw [if_neg (by rw [sb_len]; exact hp)]
  have z : (p.size : Int) ≤ 200 := by omega
  obtain ⟨W1, hW1⟩ : ∃ W1 : World, W1 = W0.alloc (Obj.cells #[.string p, .int .i64 0, .int .i64 0] 175) := ⟨_, rfl⟩
  have HW1 : Hid (BoxAt W1 w.heap.size 162 1 w.heap.size [.slice none 0 0] ∧ BoxAt W1 w.heap.size 118 2 (w.heap.size + 1) [.int .i64 0, .int .i64 0] ∧ PrAt W1 w.heap.size (w.heap.size + 2) p 0 0 ∧ Below w.heap.size w W1 ∧ W1.heap.size = w.heap.size + 3) := by
    have hb : Below W0.heap.size W0 W1 := by rw [hW1]; exact (Below.refl _ _).alloc (Nat.le_refl _) _
    have hz := HW0.out.2.2.2
    refine ⟨HW0.out.1.below hb, HW0.out.2.1.below hb, ?_, HW0.out.2.2.1.trans (hb.mono (by omega)), by rw [hW1]; simp; omega⟩
    rw [hW1, ← hz]
    exact boxAt_new W0 #[.string p, .int .i64 0, .int .i64 0] (by omega) rfl
  go_enter_defers Try.func116, Try.ntmps116
  go_upto_region 1 with fail
  rw [← hW0]
  have hz0 : W0.heap.size = w.heap.size + 2 := HW0.out.2.2.2
  clear hW0 HW0
  go_upto_region 5 with fail
  rw [← hW1]
  clear hW1 hz0
  go_wp2_with fail
  refine (alt_core hp2 w.heap.size (w.heap.size + 2) 0 0 W1 (Nat.zero_le _) (Nat.zero_le _) HW1.out.2.2.1).mono ?_
  rintro e w2 ⟨hC2, (⟨k, os, u, hA, hN, rfl, hU, hP2⟩ | ⟨c, k, hc, hk, rfl⟩)⟩
  case inr =>
    have hb2 : Below w.heap.size w w2 := Chg.below HW1.out.2.2.2.1 hC2 HW1.out.2.2.2.1.size (fun j q => by omega)
    exact rp_dies p w w2 _ c k w.heap.size (w.heap.size + 1) _ (Nat.le_refl _) (by omega) (by omega) rfl rfl rfl (by rw [HM.out, hk]) hc (HW1.out.1.chg hC2 (by omega)) (HW1.out.2.1.chg hC2 (by omega)) hb2
  obtain ⟨gu, nu, cu, rfl⟩ := hU.slice
  have hkp : k ≤ p.size := by have := hA.le; rw [sb_len] at this; exact this
  have HA : Hid (AltOk (sb p) 0 0 k os ∧ (∀ c, (sb p)[k]? = some c → isEnd c ∧ ¬ c = 124)) := ⟨hA, hN⟩
  have HW2 : Hid (BoxAt w2 w.heap.size 162 1 w.heap.size [.slice none 0 0] ∧ BoxAt w2 w.heap.size 118 2 (w.heap.size + 1) [.int .i64 0, .int .i64 0] ∧ PrAt w2 w.heap.size (w.heap.size + 2) p k 0 ∧ Below w.heap.size w w2 ∧ AltAt w2 (fun j => w.heap.size + 3 ≤ j) os (.slice (some ⟨gu, 0, none⟩) nu cu)) := by
    refine ⟨HW1.out.1.chg hC2 (by omega), HW1.out.2.1.chg hC2 (by omega), hP2, Chg.below HW1.out.2.2.2.1 hC2 HW1.out.2.2.2.1.size (fun j q => by omega), hU.move (S := fun _ => False) (Chg.refl _ _) (fun q hq => hq.elim) (fun q _ z => by have h1 := z.1; rw [HW1.out.2.2.2.2] at h1; exact h1)⟩
  clear hC2 hA hN hU hP2 HW1
  obtain ⟨W3, hW3⟩ : ∃ W3 : World, W3 = w2.setCell ⟨w.heap.size, 0, none⟩ (.slice (some ⟨gu, 0, none⟩) nu cu) := ⟨_, rfl⟩
  have HW3 : Hid (BoxAt W3 w.heap.size 162 1 w.heap.size [.slice (some ⟨gu, 0, none⟩) nu cu] ∧ BoxAt W3 w.heap.size 118 2 (w.heap.size + 1) [.int .i64 0, .int .i64 0] ∧ PrAt W3 w.heap.size (w.heap.size + 2) p k 0 ∧ Below w.heap.size w W3 ∧ AltAt W3 (fun j => w.heap.size + 3 ≤ j) os (.slice (some ⟨gu, 0, none⟩) nu cu)) := by
    have hc := Chg.of_set w2 w.heap.size 0 (.slice (some ⟨gu, 0, none⟩) nu cu) (S := fun j => j = w.heap.size) rfl
    rw [hW3]
    exact ⟨HW2.out.1.set 0 _, HW2.out.2.1.chg hc (by omega), BoxAt.chg HW2.out.2.2.1 hc (by omega), below_set HW2.out.2.2.2.1 (Nat.le_refl _) 0 _, HW2.out.2.2.2.2.move hc (fun q hq => by subst hq; exact fun z => by omega) (fun q _ z => z)⟩
  have r0 := HW2.out.1.cell (j := 0) rfl
  have rf := HW2.out.1.frozen 0
  clear HW2
  go_upto_region 6 with fail
  rw [← hW3]
  clear hW3 r0 rf
  have c1 := HW3.out.2.2.1.cell (j := 1) rfl
  by_cases hke : k = p.size
  · have zk : (k : Int) = (p.size : Int) := by omega
    have HOk : Hid (checkM (sb p) = (0, 0) ∧ AltOk (sb p) 0 0 p.size os) := by
      refine ⟨?_, by rw [← hke]; exact HA.out.1⟩
      rw [HM.out, HA.out.1.chk, chk_end (by rw [sb_len]; omega), if_neg (by omega)]
    clear HA hke
    go_wp2_with fail
    refine (pdem_core _ HW3.out.2.2.1).mono ?_
    rintro e w5 ⟨hw5, (⟨hc, rfl⟩ | ⟨hc, rfl⟩)⟩
    case inr => exfalso; (simp at hc) <;> omega
    rw [hw5]
    clear hw5 hc c1
    have r0 := HW3.out.1.cell (j := 0) rfl
    have rf := HW3.out.1.frozen 0
    have e0 := HW3.out.2.1.cell (j := 0) rfl
    have e1 := HW3.out.2.1.cell (j := 1) rfl
    have f0 := HW3.out.2.1.frozen 0
    have f1 := HW3.out.2.1.frozen 1
    obtain ⟨W6, hW6⟩ : ∃ W6 : World, W6 = ((W3.setCell ⟨w.heap.size, 0, none⟩ (.slice (some ⟨gu, 0, none⟩) nu cu)).setCell ⟨w.heap.size + 1, 0, none⟩ (.int .i64 0)).setCell ⟨w.heap.size + 1, 1, none⟩ (.int .i64 0) := ⟨_, rfl⟩
    have HW6 : Hid (BoxAt W6 w.heap.size 162 1 w.heap.size [.slice (some ⟨gu, 0, none⟩) nu cu] ∧ BoxAt W6 w.heap.size 118 2 (w.heap.size + 1) [.int .i64 0, .int .i64 0] ∧ Below w.heap.size w W6 ∧ AltAt W6 (Bet w.heap.size W6.heap.size) os (.slice (some ⟨gu, 0, none⟩) nu cu)) := by
      have c1 := Chg.of_set W3 w.heap.size 0 (.slice (some ⟨gu, 0, none⟩) nu cu) (S := fun j => j = w.heap.size ∨ j = w.heap.size + 1) (.inl rfl)
      have c2 := c1.trans (Chg.of_set _ (w.heap.size + 1) 0 (.int .i64 0) (S := fun j => j = w.heap.size ∨ j = w.heap.size + 1) (.inr rfl))
      have c3 := c2.trans (Chg.of_set _ (w.heap.size + 1) 1 (.int .i64 0) (S := fun j => j = w.heap.size ∨ j = w.heap.size + 1) (.inr rfl))
      rw [hW6]
      exact ⟨(((HW3.out.1.set 0 _).beside (by omega) 0 _).beside (by omega) 1 _), (((HW3.out.2.1.beside (by omega) 0 _).set 0 _).set 1 _), below_set (below_set (below_set HW3.out.2.2.2.1 (Nat.le_refl _) 0 _) (by omega) 0 _) (by omega) 1 _, HW3.out.2.2.2.2.move c3 (fun q hq => fun z => by omega) (fun q hq z => ⟨by omega, by have := c3.size; omega⟩)⟩
    go_wp2_with fail
    rw [← hW6]
    exact rp_done p w W6 _ w.heap.size (w.heap.size + 1) _ os rfl rfl rfl rfl HOk.out.1 HOk.out.2 HW6.out.2.2.2 HW6.out.1 HW6.out.2.1 HW6.out.2.2.1
  · have zk : ¬ (k : Int) = (p.size : Int) := by omega
    have HOk : Hid (checkM (sb p) = (2, k)) := by
      show checkM (sb p) = _
      obtain ⟨c, hc⟩ : ∃ c, (sb p)[k]? = some c := ⟨_, List.getElem?_eq_getElem (by rw [sb_len]; omega)⟩
      obtain ⟨h1, h2⟩ := HA.out.2 c hc
      rw [HM.out, HA.out.1.chk]
      rcases h1 with h1 | h1 | h1 | h1
      · rw [chk_op hc h1]; rfl
      · exact absurd h1 h2
      · subst h1; rw [chk_close hc, if_pos rfl]
      · subst h1; rw [chk_rb hc]
    clear HA hke
    go_wp2_with fail
    refine (pdem_core _ HW3.out.2.2.1).mono ?_
    rintro e w5 ⟨hw5, (⟨hc, rfl⟩ | ⟨hc, rfl⟩)⟩
    · exfalso; (simp at hc) <;> omega
    rw [hw5]
    exact rp_dies p w W3 _ 2 k w.heap.size (w.heap.size + 1) _ (Nat.le_refl _) (by omega) (by omega) rfl rfl rfl HOk.out (by decide) HW3.out.1 HW3.out.2.1 HW3.out.2.2.2.1

set_option maxHeartbeats 2000000 in
theorem implCheck_core (p : ByteArray) (w : World) (hpm : p.size ≤ maxLen) : Calls Try.prog 98 #[.string p] w fun e w' => e = .returned (.agg #[.int .i64 (checkM (sb p)).1, .int .i64 ((checkM (sb p)).2 : Int)]) ∧ Below w.heap.size w w' := by
  obtain ⟨W0, hW0⟩ : ∃ W0 : World, W0 = w.alloc (Obj.cells #[.int .i64 0, .int .i64 0] 118) := ⟨_, rfl⟩
  have HW0 : Hid (BoxAt W0 w.heap.size 118 2 w.heap.size [.int .i64 0, .int .i64 0] ∧ Below w.heap.size w W0) := by
    rw [hW0]; exact ⟨boxAt_new w _ (Nat.le_refl _) rfl, (Below.refl _ _).alloc (Nat.le_refl _) _⟩
  obtain ⟨c, hc⟩ : ∃ c, c = (checkM (sb p)).1 := ⟨_, rfl⟩
  obtain ⟨k, hk⟩ : ∃ k, k = (checkM (sb p)).2 := ⟨_, rfl⟩
  rw [← hc, ← hk]
  go_enter Try.func98, Try.ntmps98
  go_upto_region 1 with fail
  rw [← hW0]
  clear hW0
  go_wp2_with fail
  refine (readPattern_core p W0 hpm).mono ?_
  rintro e w1 ⟨u, rfl, hb1, hu⟩
  rw [← hc, ← hk]
  obtain ⟨ua, un, uc, rfl⟩ : ∃ a n cp, u = .slice a n cp := by
    rcases hu with ⟨_, os, _, hU⟩ | ⟨_, rfl⟩
    · obtain ⟨g, n, cp, rfl⟩ := hU.slice; exact ⟨_, _, _, rfl⟩
    · exact ⟨_, _, _, rfl⟩
  clear hu hc hk
  obtain ⟨W2, hW2⟩ : ∃ W2 : World, W2 = (w1.alloc (Obj.cells #[.slice ua un uc] 162)).alloc (Obj.cells #[.int .i64 c, .int .i64 (k : Int)] 118) := ⟨_, rfl⟩
  have HW2 : Hid (BoxAt W2 w.heap.size 118 2 w.heap.size [.int .i64 0, .int .i64 0] ∧ BoxAt W2 w.heap.size 118 2 (w1.heap.size + 1) [.int .i64 c, .int .i64 (k : Int)] ∧ Below w.heap.size w W2) := by
    have hb2 : Below w1.heap.size w1 W2 := by rw [hW2]; exact ((Below.refl _ _).alloc (Nat.le_refl _) _).alloc (by simp) _
    have h1 := HW0.out.2.size
    have h2 := hb1.size
    refine ⟨(HW0.out.1.below hb1).below hb2, ?_, (HW0.out.2.trans (hb1.mono h1)).trans (hb2.mono (by omega))⟩
    rw [hW2]
    exact BoxAt.ofHeap (vs := #[.int .i64 c, .int .i64 (k : Int)]) (heap_alloc2_new w1 _ _) (by omega) rfl
  clear hb1 HW0
  go_upto_region 2 with fail
  rw [← hW2]
  clear hW2
  have b0 := HW2.out.2.1.cell (j := 0) rfl
  have b1 := HW2.out.2.1.cell (j := 1) rfl
  have r0 := HW2.out.1.cell (j := 0) rfl
  have r1 := HW2.out.1.cell (j := 1) rfl
  have f0 := HW2.out.1.frozen 0
  have f1 := HW2.out.1.frozen 1
  have hbx := (HW2.out.1.set 0 (.int .i64 c)).set 1 (.int .i64 (k : Int))
  have p0 := hbx.cell (j := 0) rfl
  have p1 := hbx.cell (j := 1) rfl
  have HB3 : Hid (Below w.heap.size w ((W2.setCell ⟨w.heap.size, 0, none⟩ (.int .i64 c)).setCell ⟨w.heap.size, 1, none⟩ (.int .i64 (k : Int)))) := below_set (below_set HW2.out.2.2 (Nat.le_refl _) 0 _) (Nat.le_refl _) 1 _
  obtain ⟨W3, hW3⟩ : ∃ W3 : World, W3 = (W2.setCell ⟨w.heap.size, 0, none⟩ (.int .i64 c)).setCell ⟨w.heap.size, 1, none⟩ (.int .i64 (k : Int)) := ⟨_, rfl⟩
  rw [← hW3] at p0 p1 HB3
  clear hbx
  go_wp2_with fail
  rw [← hW3]
  refine bodyPost_ret (v := .agg #[.int .i64 c, .int .i64 (k : Int)]) (by simp [results, Try.results98, go_sem, p0, p1]) rfl ⟨rfl, HB3.out⟩
end Go.Proofs.Ythkmecppjhcidac
