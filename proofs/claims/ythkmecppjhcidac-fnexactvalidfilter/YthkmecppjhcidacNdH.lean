/-
  spec.l5GoodNode.
-/
import Derived.Test.YthkmecppjhcidacNdG
import Derived.Deep.DeepCutAuto
namespace Go.Proofs.Ythkmecppjhcidac
open Go.ChangeShapes Go.WideShapes Go.ChangeAt Go.RowKit Go.Deep
set_option linter.unusedVariables false
set_option linter.unusedSimpArgs false
set_option maxRecDepth 100000

theorem regField (c k : Int) (w : World) : (Instr.field 118 (.agg #[.int .i64 c, .int .i64 k]) 0).run Try.prog w = .ok (.int .i64 c) w := by kernel_rfl
/-- What is said of a node. -/
def NdPost (e : Nd) (w : World) (r : Ending) (w' : World) : Prop := ∃ b, r = .returned (.bool b) ∧ (b = true ↔ GoodN e) ∧ Below w.heap.size w w'
set_option maxHeartbeats 8000000 in
theorem good_core (e : Nd) (w : World) (hs : e.s.size ≤ maxLen) (ht : e.t.size ≤ maxLen) : Calls Try.prog 41 #[e.v] w (NdPost e w) := by
  obtain ⟨kind, s, hi, t, lo, up, n⟩ := e
  have HS : Hid (s.size ≤ maxLen) := hs
  unfold maxLen at hs ht
  simp only [] at hs ht
  obtain ⟨W0, hW0⟩ : ∃ W0 : World, W0 = w.alloc (Obj.cells #[.int .i64 kind, .string s, .bool hi, .string t, .int .u64 lo, .int .u64 up, .int .i64 n] 76) := ⟨_, rfl⟩
  have HW0 : Hid (BoxAt W0 w.heap.size 76 7 w.heap.size [.int .i64 kind, .string s, .bool hi, .string t, .int .u64 lo, .int .u64 up, .int .i64 n] ∧ Below w.heap.size w W0) := by
    rw [hW0]; exact ⟨boxAt_new w _ (Nat.le_refl _) rfl, (Below.refl _ _).alloc (Nat.le_refl _) _⟩
  have hbw := HW0.out.2.size
  have c0 := HW0.out.1.cell (j := 0) rfl
  have c1 := HW0.out.1.cell (j := 1) rfl
  have c2 := HW0.out.1.cell (j := 2) rfl
  have c3 := HW0.out.1.cell (j := 3) rfl
  have c4 := HW0.out.1.cell (j := 4) rfl
  have c5 := HW0.out.1.cell (j := 5) rfl
  have c6 := HW0.out.1.cell (j := 6) rfl
  go_enter Try.func41, Try.ntmps41
  go_upto_region 1 with fail
  rw [← hW0]
  clear hW0
  by_cases hgood : s.size ≤ 200 ∧ t.size ≤ 200 ∧ (hi = true ∨ (hi = false ∧ t.toList = [] ∧ up = 0))
  case neg =>
    have HG : Hid (¬ GoodN ⟨kind, s, hi, t, lo, up, n⟩) := fun q => hgood ⟨q.1, q.2.1, by
      cases hi
      · exact .inr ⟨rfl, q.2.2.1 rfl⟩
      · exact .inl rfl⟩
    by_cases h1 : s.size ≤ 200
    · have z1 : ¬ (200 : Int) < (s.size : Int) := by omega
      by_cases h2 : t.size ≤ 200
      · have z2 : ¬ (200 : Int) < (t.size : Int) := by omega
        have hhi : hi = false := by cases hi; rfl; exact absurd ⟨h1, h2, .inl rfl⟩ hgood
        subst hhi
        by_cases h3 : t.toList = []
        · have h4 : ¬ up = 0 := fun q => hgood ⟨h1, h2, .inr ⟨rfl, h3, q⟩⟩
          clear hgood
          go_wp2_with fail
          go_ret
          exact ⟨_, rfl, by simp [HG.out], HW0.out.2⟩
        · clear hgood
          go_wp2_with fail
          go_ret
          exact ⟨_, rfl, by simp [HG.out], HW0.out.2⟩
      · have z2 : (200 : Int) < (t.size : Int) := by omega
        clear hgood
        go_wp2_with fail
        go_ret
        exact ⟨_, rfl, by simp [HG.out], HW0.out.2⟩
    · have z1 : (200 : Int) < (s.size : Int) := by omega
      clear hgood
      go_wp2_with fail
      go_ret
      exact ⟨_, rfl, by simp [HG.out], HW0.out.2⟩
  have HG : Hid (s.size ≤ 200 ∧ t.size ≤ 200 ∧ (hi = false → t.toList = [] ∧ up = 0)) := ⟨hgood.1, hgood.2.1, fun q => hgood.2.2.elim (fun z => by rw [q] at z; cases z) (fun z => z.2)⟩
  go_cut [27] (fun s wx => s = .bool false ∧ wx = W0)
  case first =>
    have z1 : ¬ (200 : Int) < (s.size : Int) := by have := HG.out.1; omega
    have z2 : ¬ (200 : Int) < (t.size : Int) := by have := HG.out.2.1; omega
    rcases hgood.2.2 with rfl | ⟨rfl, h3, rfl⟩
    · go_wp2_with fail
      go_meet
      exact ⟨rfl, rfl⟩
    · go_wp2_with fail
      go_meet
      exact ⟨rfl, rfl⟩
  case rest =>
  obtain ⟨rfl, rfl⟩ := hcut
  clear hgood hs ht
  obtain ⟨c, hc⟩ : ∃ c, c = (checkM (sb s)).1 := ⟨_, rfl⟩
  obtain ⟨k, hk⟩ : ∃ k : Int, k = ((checkM (sb s)).2 : Int) := ⟨_, rfl⟩
  have HV : Hid (c = (checkM (sb s)).1) := hc
  have HC : Hid (∀ w, Calls Try.prog 67 #[.string s] w fun e w' => e = .returned (.agg #[.int .i64 c, .int .i64 k]) ∧ Below w.heap.size w w') := fun w => by
    rw [hc, hk]; exact specCheck_core s w HS.out
  clear hc hk
  by_cases k4 : kind = 4
  · subst k4
    go_wp2_with fail
    refine (bareS_core ⟨4, s, hi, t, lo, up, n⟩ _).mono ?_
    rintro r w1 ⟨b, rfl, hb, hb1⟩
    have HB : Hid (b = true ↔ (hi = false ∧ t.toList = [] ∧ lo = 0 ∧ up = 0 ∧ n = 0)) := hb
    have d0 := (HW0.out.1.below hb1).cell (j := 0) rfl
    have d1 := (HW0.out.1.below hb1).cell (j := 1) rfl
    have d2 := (HW0.out.1.below hb1).cell (j := 2) rfl
    have d3 := (HW0.out.1.below hb1).cell (j := 3) rfl
    have d4 := (HW0.out.1.below hb1).cell (j := 4) rfl
    have d5 := (HW0.out.1.below hb1).cell (j := 5) rfl
    have d6 := (HW0.out.1.below hb1).cell (j := 6) rfl
    clear hb
    cases b
    · have HF : Hid (¬ GoodN ⟨4, s, hi, t, lo, up, n⟩) := by
        show ¬ GoodN _
        have hB := HB.out
        intro q
        simp [GoodN] at q hB
        simp_all
      go_wp2_with fail
      go_ret
      exact ⟨_, rfl, by simp [HF.out], HW0.out.2.trans (hb1.mono hbw)⟩
    · have hfd := regField c k
      go_wp2_with fail
      refine (HC.out _).mono ?_
      rintro r w2 ⟨rfl, hb2⟩
      have hs1 := hb1.size
      have HK : Hid (Below w.heap.size w w2) := (HW0.out.2.trans (hb1.mono hbw)).trans (hb2.mono (by omega))
      clear hb1 hb2 d0 d1 d2 d3 d4 d5 d6
      go_wp2_with fail
      go_ret
      refine ⟨_, rfl, ?_, HK.out⟩
      have hG := HG.out
      have hB := HB.out
      simp at hB
      rw [HV.out]
      simp [GoodN]
      simp_all
  by_cases k5 : kind = 5
  · subst k5
    go_wp2_with fail
    refine (bareS_core ⟨5, s, hi, t, lo, up, n⟩ _).mono ?_
    rintro r w1 ⟨b, rfl, hb, hb1⟩
    have HB : Hid (b = true ↔ (hi = false ∧ t.toList = [] ∧ lo = 0 ∧ up = 0 ∧ n = 0)) := hb
    have d0 := (HW0.out.1.below hb1).cell (j := 0) rfl
    have d1 := (HW0.out.1.below hb1).cell (j := 1) rfl
    have d2 := (HW0.out.1.below hb1).cell (j := 2) rfl
    have d3 := (HW0.out.1.below hb1).cell (j := 3) rfl
    have d4 := (HW0.out.1.below hb1).cell (j := 4) rfl
    have d5 := (HW0.out.1.below hb1).cell (j := 5) rfl
    have d6 := (HW0.out.1.below hb1).cell (j := 6) rfl
    clear hb
    cases b
    · have HF : Hid (¬ GoodN ⟨5, s, hi, t, lo, up, n⟩) := by
        show ¬ GoodN _
        have hB := HB.out
        intro q
        simp [GoodN] at q hB
        simp_all
      go_wp2_with fail
      go_ret
      exact ⟨_, rfl, by simp [HF.out], HW0.out.2.trans (hb1.mono hbw)⟩
    · have hfd := regField c k
      go_wp2_with fail
      refine (HC.out _).mono ?_
      rintro r w2 ⟨rfl, hb2⟩
      have hs1 := hb1.size
      have HK : Hid (Below w.heap.size w w2) := (HW0.out.2.trans (hb1.mono hbw)).trans (hb2.mono (by omega))
      clear hb1 hb2 d0 d1 d2 d3 d4 d5 d6
      go_wp2_with fail
      go_ret
      refine ⟨_, rfl, ?_, HK.out⟩
      have hG := HG.out
      have hB := HB.out
      simp at hB
      rw [HV.out]
      simp [GoodN]
      simp_all
  by_cases k6 : kind = 6
  · subst k6
    go_wp2_with fail
    refine (bareS_core ⟨6, s, hi, t, lo, up, n⟩ _).mono ?_
    rintro r w1 ⟨b, rfl, hb, hb1⟩
    have HB : Hid (b = true ↔ (hi = false ∧ t.toList = [] ∧ lo = 0 ∧ up = 0 ∧ n = 0)) := hb
    have d0 := (HW0.out.1.below hb1).cell (j := 0) rfl
    have d1 := (HW0.out.1.below hb1).cell (j := 1) rfl
    have d2 := (HW0.out.1.below hb1).cell (j := 2) rfl
    have d3 := (HW0.out.1.below hb1).cell (j := 3) rfl
    have d4 := (HW0.out.1.below hb1).cell (j := 4) rfl
    have d5 := (HW0.out.1.below hb1).cell (j := 5) rfl
    have d6 := (HW0.out.1.below hb1).cell (j := 6) rfl
    clear hb
    cases b
    · have HF : Hid (¬ GoodN ⟨6, s, hi, t, lo, up, n⟩) := by
        show ¬ GoodN _
        have hB := HB.out
        intro q
        simp [GoodN] at q hB
        simp_all
      go_wp2_with fail
      go_ret
      exact ⟨_, rfl, by simp [HF.out], HW0.out.2.trans (hb1.mono hbw)⟩
    · have hfd := regField c k
      go_wp2_with fail
      refine (HC.out _).mono ?_
      rintro r w2 ⟨rfl, hb2⟩
      have hs1 := hb1.size
      have HK : Hid (Below w.heap.size w w2) := (HW0.out.2.trans (hb1.mono hbw)).trans (hb2.mono (by omega))
      clear hb1 hb2 d0 d1 d2 d3 d4 d5 d6
      go_wp2_with fail
      go_ret
      refine ⟨_, rfl, ?_, HK.out⟩
      have hG := HG.out
      have hB := HB.out
      simp at hB
      rw [HV.out]
      simp [GoodN]
      simp_all
  by_cases k7 : kind = 7
  · subst k7
    go_wp2_with fail
    refine (bareS_core ⟨7, s, hi, t, lo, up, n⟩ _).mono ?_
    rintro r w1 ⟨b, rfl, hb, hb1⟩
    have HB : Hid (b = true ↔ (hi = false ∧ t.toList = [] ∧ lo = 0 ∧ up = 0 ∧ n = 0)) := hb
    have d0 := (HW0.out.1.below hb1).cell (j := 0) rfl
    have d1 := (HW0.out.1.below hb1).cell (j := 1) rfl
    have d2 := (HW0.out.1.below hb1).cell (j := 2) rfl
    have d3 := (HW0.out.1.below hb1).cell (j := 3) rfl
    have d4 := (HW0.out.1.below hb1).cell (j := 4) rfl
    have d5 := (HW0.out.1.below hb1).cell (j := 5) rfl
    have d6 := (HW0.out.1.below hb1).cell (j := 6) rfl
    clear hb
    cases b
    · have HF : Hid (¬ GoodN ⟨7, s, hi, t, lo, up, n⟩) := by
        show ¬ GoodN _
        have hB := HB.out
        intro q
        simp [GoodN] at q hB
        simp_all
      go_wp2_with fail
      go_ret
      exact ⟨_, rfl, by simp [HF.out], HW0.out.2.trans (hb1.mono hbw)⟩
    · have hfd := regField c k
      go_wp2_with fail
      refine (HC.out _).mono ?_
      rintro r w2 ⟨rfl, hb2⟩
      have hs1 := hb1.size
      have HK : Hid (Below w.heap.size w w2) := (HW0.out.2.trans (hb1.mono hbw)).trans (hb2.mono (by omega))
      clear hb1 hb2 d0 d1 d2 d3 d4 d5 d6
      go_wp2_with fail
      go_ret
      refine ⟨_, rfl, ?_, HK.out⟩
      have hG := HG.out
      have hB := HB.out
      simp at hB
      rw [HV.out]
      simp [GoodN]
      simp_all
  by_cases k8 : kind = 8
  · subst k8
    go_wp2_with fail
    refine (bareST_core ⟨8, s, hi, t, lo, up, n⟩ _).mono ?_
    rintro r w1 ⟨b, rfl, hb, hb1⟩
    have HB : Hid (b = true ↔ (lo = 0 ∧ up = 0 ∧ n = 0)) := hb
    have d0 := (HW0.out.1.below hb1).cell (j := 0) rfl
    have d1 := (HW0.out.1.below hb1).cell (j := 1) rfl
    have d2 := (HW0.out.1.below hb1).cell (j := 2) rfl
    have d3 := (HW0.out.1.below hb1).cell (j := 3) rfl
    have d4 := (HW0.out.1.below hb1).cell (j := 4) rfl
    have d5 := (HW0.out.1.below hb1).cell (j := 5) rfl
    have d6 := (HW0.out.1.below hb1).cell (j := 6) rfl
    clear hb
    cases b
    · have HF : Hid (¬ GoodN ⟨8, s, hi, t, lo, up, n⟩) := by
        show ¬ GoodN _
        have hB := HB.out
        intro q
        simp [GoodN] at q hB
        simp_all
      go_wp2_with fail
      go_ret
      exact ⟨_, rfl, by simp [HF.out], HW0.out.2.trans (hb1.mono hbw)⟩
    · have HF : Hid (GoodN ⟨8, s, hi, t, lo, up, n⟩ ↔ (hi = true → less s t)) := by
        show GoodN _ ↔ _
        have hB := HB.out
        have hG := HG.out
        simp at hB
        simp [GoodN]
        simp_all
      cases hi
      · go_wp2_with fail
        go_ret
        exact ⟨_, rfl, by simp [HF.out], HW0.out.2.trans (hb1.mono hbw)⟩
      · go_wp2_with fail
        go_ret
        exact ⟨_, rfl, by simp [HF.out, less], HW0.out.2.trans (hb1.mono hbw)⟩
  by_cases k9 : kind = 9
  · subst k9
    go_wp2_with fail
    refine (bareST_core ⟨9, s, hi, t, lo, up, n⟩ _).mono ?_
    rintro r w1 ⟨b, rfl, hb, hb1⟩
    have HB : Hid (b = true ↔ (lo = 0 ∧ up = 0 ∧ n = 0)) := hb
    have d0 := (HW0.out.1.below hb1).cell (j := 0) rfl
    have d1 := (HW0.out.1.below hb1).cell (j := 1) rfl
    have d2 := (HW0.out.1.below hb1).cell (j := 2) rfl
    have d3 := (HW0.out.1.below hb1).cell (j := 3) rfl
    have d4 := (HW0.out.1.below hb1).cell (j := 4) rfl
    have d5 := (HW0.out.1.below hb1).cell (j := 5) rfl
    have d6 := (HW0.out.1.below hb1).cell (j := 6) rfl
    clear hb
    cases b
    · have HF : Hid (¬ GoodN ⟨9, s, hi, t, lo, up, n⟩) := by
        show ¬ GoodN _
        have hB := HB.out
        intro q
        simp [GoodN] at q hB
        simp_all
      go_wp2_with fail
      go_ret
      exact ⟨_, rfl, by simp [HF.out], HW0.out.2.trans (hb1.mono hbw)⟩
    · have HF : Hid (GoodN ⟨9, s, hi, t, lo, up, n⟩ ↔ (hi = true → less s t)) := by
        show GoodN _ ↔ _
        have hB := HB.out
        have hG := HG.out
        simp at hB
        simp [GoodN]
        simp_all
      cases hi
      · go_wp2_with fail
        go_ret
        exact ⟨_, rfl, by simp [HF.out], HW0.out.2.trans (hb1.mono hbw)⟩
      · go_wp2_with fail
        go_ret
        exact ⟨_, rfl, by simp [HF.out, less], HW0.out.2.trans (hb1.mono hbw)⟩
  by_cases k10 : kind = 10
  · subst k10
    go_wp2_with fail
    refine (bareN_core ⟨10, s, hi, t, lo, up, n⟩ _).mono ?_
    rintro r w1 ⟨b, rfl, hb, hb1⟩
    have HB : Hid (b = true ↔ (s.toList = [] ∧ t.toList = [] ∧ n = 0)) := hb
    have d0 := (HW0.out.1.below hb1).cell (j := 0) rfl
    have d1 := (HW0.out.1.below hb1).cell (j := 1) rfl
    have d2 := (HW0.out.1.below hb1).cell (j := 2) rfl
    have d3 := (HW0.out.1.below hb1).cell (j := 3) rfl
    have d4 := (HW0.out.1.below hb1).cell (j := 4) rfl
    have d5 := (HW0.out.1.below hb1).cell (j := 5) rfl
    have d6 := (HW0.out.1.below hb1).cell (j := 6) rfl
    clear hb
    cases b
    · have HF : Hid (¬ GoodN ⟨10, s, hi, t, lo, up, n⟩) := by
        show ¬ GoodN _
        have hB := HB.out
        intro q
        simp [GoodN] at q hB
        simp_all
      go_wp2_with fail
      go_ret
      exact ⟨_, rfl, by simp [HF.out], HW0.out.2.trans (hb1.mono hbw)⟩
    · have HF : Hid (GoodN ⟨10, s, hi, t, lo, up, n⟩ ↔ (hi = true → lo < up)) := by
        show GoodN _ ↔ _
        have hB := HB.out
        have hG := HG.out
        simp at hB
        simp [GoodN]
        simp_all
      cases hi
      · go_wp2_with fail
        go_ret
        exact ⟨_, rfl, by simp [HF.out], HW0.out.2.trans (hb1.mono hbw)⟩
      · go_wp2_with fail
        go_ret
        exact ⟨_, rfl, by simp [HF.out], HW0.out.2.trans (hb1.mono hbw)⟩
  by_cases k11 : kind = 11
  · subst k11
    go_wp2_with fail
    refine (bareC_core ⟨11, s, hi, t, lo, up, n⟩ _).mono ?_
    rintro r w1 ⟨b, rfl, hb, hb1⟩
    have HB : Hid (b = true ↔ (s.toList = [] ∧ hi = false ∧ t.toList = [] ∧ lo = 0 ∧ up = 0)) := hb
    have d0 := (HW0.out.1.below hb1).cell (j := 0) rfl
    have d1 := (HW0.out.1.below hb1).cell (j := 1) rfl
    have d2 := (HW0.out.1.below hb1).cell (j := 2) rfl
    have d3 := (HW0.out.1.below hb1).cell (j := 3) rfl
    have d4 := (HW0.out.1.below hb1).cell (j := 4) rfl
    have d5 := (HW0.out.1.below hb1).cell (j := 5) rfl
    have d6 := (HW0.out.1.below hb1).cell (j := 6) rfl
    clear hb
    cases b
    · have HF : Hid (¬ GoodN ⟨11, s, hi, t, lo, up, n⟩) := by
        show ¬ GoodN _
        have hB := HB.out
        intro q
        simp [GoodN] at q hB
        simp_all
      go_wp2_with fail
      go_ret
      exact ⟨_, rfl, by simp [HF.out], HW0.out.2.trans (hb1.mono hbw)⟩
    · have HF : Hid (GoodN ⟨11, s, hi, t, lo, up, n⟩ ↔ (1 ≤ n ∧ n ≤ 1000)) := by
        show GoodN _ ↔ _
        have hB := HB.out
        have hG := HG.out
        simp at hB
        simp [GoodN]
        simp_all
      by_cases h1 : 1 ≤ n
      · go_wp2_with fail
        go_ret
        exact ⟨_, rfl, by rw [HF.out]; simp; omega, HW0.out.2.trans (hb1.mono hbw)⟩
      · go_wp2_with fail
        go_ret
        exact ⟨_, rfl, by rw [HF.out]; simp; omega, HW0.out.2.trans (hb1.mono hbw)⟩
  by_cases k12 : kind = 12
  · subst k12
    go_wp2_with fail
    refine (bareC_core ⟨12, s, hi, t, lo, up, n⟩ _).mono ?_
    rintro r w1 ⟨b, rfl, hb, hb1⟩
    have HB : Hid (b = true ↔ (s.toList = [] ∧ hi = false ∧ t.toList = [] ∧ lo = 0 ∧ up = 0)) := hb
    have d0 := (HW0.out.1.below hb1).cell (j := 0) rfl
    have d1 := (HW0.out.1.below hb1).cell (j := 1) rfl
    have d2 := (HW0.out.1.below hb1).cell (j := 2) rfl
    have d3 := (HW0.out.1.below hb1).cell (j := 3) rfl
    have d4 := (HW0.out.1.below hb1).cell (j := 4) rfl
    have d5 := (HW0.out.1.below hb1).cell (j := 5) rfl
    have d6 := (HW0.out.1.below hb1).cell (j := 6) rfl
    clear hb
    cases b
    · have HF : Hid (¬ GoodN ⟨12, s, hi, t, lo, up, n⟩) := by
        show ¬ GoodN _
        have hB := HB.out
        intro q
        simp [GoodN] at q hB
        simp_all
      go_wp2_with fail
      go_ret
      exact ⟨_, rfl, by simp [HF.out], HW0.out.2.trans (hb1.mono hbw)⟩
    · have HF : Hid (GoodN ⟨12, s, hi, t, lo, up, n⟩ ↔ (1 ≤ n ∧ n ≤ 1000)) := by
        show GoodN _ ↔ _
        have hB := HB.out
        have hG := HG.out
        simp at hB
        simp [GoodN]
        simp_all
      by_cases h1 : 1 ≤ n
      · go_wp2_with fail
        go_ret
        exact ⟨_, rfl, by rw [HF.out]; simp; omega, HW0.out.2.trans (hb1.mono hbw)⟩
      · go_wp2_with fail
        go_ret
        exact ⟨_, rfl, by rw [HF.out]; simp; omega, HW0.out.2.trans (hb1.mono hbw)⟩
  by_cases k13 : kind = 13
  · subst k13
    go_wp2_with fail
    refine (bareC_core ⟨13, s, hi, t, lo, up, n⟩ _).mono ?_
    rintro r w1 ⟨b, rfl, hb, hb1⟩
    have HB : Hid (b = true ↔ (s.toList = [] ∧ hi = false ∧ t.toList = [] ∧ lo = 0 ∧ up = 0)) := hb
    have d0 := (HW0.out.1.below hb1).cell (j := 0) rfl
    have d1 := (HW0.out.1.below hb1).cell (j := 1) rfl
    have d2 := (HW0.out.1.below hb1).cell (j := 2) rfl
    have d3 := (HW0.out.1.below hb1).cell (j := 3) rfl
    have d4 := (HW0.out.1.below hb1).cell (j := 4) rfl
    have d5 := (HW0.out.1.below hb1).cell (j := 5) rfl
    have d6 := (HW0.out.1.below hb1).cell (j := 6) rfl
    clear hb
    cases b
    · have HF : Hid (¬ GoodN ⟨13, s, hi, t, lo, up, n⟩) := by
        show ¬ GoodN _
        have hB := HB.out
        intro q
        simp [GoodN] at q hB
        simp_all
      go_wp2_with fail
      go_ret
      exact ⟨_, rfl, by simp [HF.out], HW0.out.2.trans (hb1.mono hbw)⟩
    · have HF : Hid (GoodN ⟨13, s, hi, t, lo, up, n⟩ ↔ (1 ≤ n ∧ n ≤ 1000)) := by
        show GoodN _ ↔ _
        have hB := HB.out
        have hG := HG.out
        simp at hB
        simp [GoodN]
        simp_all
      by_cases h1 : 1 ≤ n
      · go_wp2_with fail
        go_ret
        exact ⟨_, rfl, by rw [HF.out]; simp; omega, HW0.out.2.trans (hb1.mono hbw)⟩
      · go_wp2_with fail
        go_ret
        exact ⟨_, rfl, by rw [HF.out]; simp; omega, HW0.out.2.trans (hb1.mono hbw)⟩
  by_cases k1 : kind = 1
  · subst k1
    go_wp2_with fail
    refine (bareZ_core ⟨1, s, hi, t, lo, up, n⟩ _).mono ?_
    rintro r w1 ⟨b, rfl, hb, hb1⟩
    have HB : Hid (b = true ↔ (s.toList = [] ∧ hi = false ∧ t.toList = [] ∧ lo = 0 ∧ up = 0 ∧ n = 0)) := hb
    have HF : Hid (b = true ↔ GoodN ⟨1, s, hi, t, lo, up, n⟩) := by
      show b = true ↔ GoodN _
      have hB := HB.out
      have hG := HG.out
      rw [hB]
      simp [GoodN]
      simp_all
    clear hb
    go_wp2_with fail
    go_ret
    exact ⟨_, rfl, HF.out, HW0.out.2.trans (hb1.mono hbw)⟩
  by_cases k2 : kind = 2
  · subst k2
    go_wp2_with fail
    refine (bareZ_core ⟨2, s, hi, t, lo, up, n⟩ _).mono ?_
    rintro r w1 ⟨b, rfl, hb, hb1⟩
    have HB : Hid (b = true ↔ (s.toList = [] ∧ hi = false ∧ t.toList = [] ∧ lo = 0 ∧ up = 0 ∧ n = 0)) := hb
    have HF : Hid (b = true ↔ GoodN ⟨2, s, hi, t, lo, up, n⟩) := by
      show b = true ↔ GoodN _
      have hB := HB.out
      have hG := HG.out
      rw [hB]
      simp [GoodN]
      simp_all
    clear hb
    go_wp2_with fail
    go_ret
    exact ⟨_, rfl, HF.out, HW0.out.2.trans (hb1.mono hbw)⟩
  by_cases k3 : kind = 3
  · subst k3
    go_wp2_with fail
    refine (bareZ_core ⟨3, s, hi, t, lo, up, n⟩ _).mono ?_
    rintro r w1 ⟨b, rfl, hb, hb1⟩
    have HB : Hid (b = true ↔ (s.toList = [] ∧ hi = false ∧ t.toList = [] ∧ lo = 0 ∧ up = 0 ∧ n = 0)) := hb
    have HF : Hid (b = true ↔ GoodN ⟨3, s, hi, t, lo, up, n⟩) := by
      show b = true ↔ GoodN _
      have hB := HB.out
      have hG := HG.out
      rw [hB]
      simp [GoodN]
      simp_all
    clear hb
    go_wp2_with fail
    go_ret
    exact ⟨_, rfl, HF.out, HW0.out.2.trans (hb1.mono hbw)⟩
  by_cases k14 : kind = 14
  · subst k14
    go_wp2_with fail
    refine (bareZ_core ⟨14, s, hi, t, lo, up, n⟩ _).mono ?_
    rintro r w1 ⟨b, rfl, hb, hb1⟩
    have HB : Hid (b = true ↔ (s.toList = [] ∧ hi = false ∧ t.toList = [] ∧ lo = 0 ∧ up = 0 ∧ n = 0)) := hb
    have HF : Hid (b = true ↔ GoodN ⟨14, s, hi, t, lo, up, n⟩) := by
      show b = true ↔ GoodN _
      have hB := HB.out
      have hG := HG.out
      rw [hB]
      simp [GoodN]
      simp_all
    clear hb
    go_wp2_with fail
    go_ret
    exact ⟨_, rfl, HF.out, HW0.out.2.trans (hb1.mono hbw)⟩
  by_cases k15 : kind = 15
  · subst k15
    go_wp2_with fail
    refine (bareZ_core ⟨15, s, hi, t, lo, up, n⟩ _).mono ?_
    rintro r w1 ⟨b, rfl, hb, hb1⟩
    have HB : Hid (b = true ↔ (s.toList = [] ∧ hi = false ∧ t.toList = [] ∧ lo = 0 ∧ up = 0 ∧ n = 0)) := hb
    have HF : Hid (b = true ↔ GoodN ⟨15, s, hi, t, lo, up, n⟩) := by
      show b = true ↔ GoodN _
      have hB := HB.out
      have hG := HG.out
      rw [hB]
      simp [GoodN]
      simp_all
    clear hb
    go_wp2_with fail
    go_ret
    exact ⟨_, rfl, HF.out, HW0.out.2.trans (hb1.mono hbw)⟩
  by_cases k16 : kind = 16
  · subst k16
    go_wp2_with fail
    refine (bareZ_core ⟨16, s, hi, t, lo, up, n⟩ _).mono ?_
    rintro r w1 ⟨b, rfl, hb, hb1⟩
    have HB : Hid (b = true ↔ (s.toList = [] ∧ hi = false ∧ t.toList = [] ∧ lo = 0 ∧ up = 0 ∧ n = 0)) := hb
    have HF : Hid (b = true ↔ GoodN ⟨16, s, hi, t, lo, up, n⟩) := by
      show b = true ↔ GoodN _
      have hB := HB.out
      have hG := HG.out
      rw [hB]
      simp [GoodN]
      simp_all
    clear hb
    go_wp2_with fail
    go_ret
    exact ⟨_, rfl, HF.out, HW0.out.2.trans (hb1.mono hbw)⟩
  have HF : Hid (¬ GoodN ⟨kind, s, hi, t, lo, up, n⟩) := by
    show ¬ GoodN _
    simp only [GoodN]
    rintro ⟨_, _, _, q⟩
    omega
  have hkk : ¬ (1 ≤ kind ∧ kind ≤ 16) := by omega
  by_cases k0 : 1 ≤ kind
  · have k17 : ¬ kind ≤ 16 := fun q => hkk ⟨k0, q⟩
    go_wp2_with fail
    go_ret
    exact ⟨_, rfl, by simp [HF.out], HW0.out.2⟩
  · go_wp2_with fail
    go_ret
    exact ⟨_, rfl, by simp [HF.out], HW0.out.2⟩
end Go.Proofs.Ythkmecppjhcidac
