import Derived.Deep.DeepCutAuto
import Derived.Maps.AppendAt
import Derived.Test.YtnncedndlhfdkabPkAD
import Derived.Test.YtnncedndlhfdkabPkAB
/-
  spec.l5GoodNode.
-/
namespace Go.Proofs.Ytnncedndlhfdkab
open Go.ChangeShapes Go.WideShapes Go.ChangeAt Go.RowKit Go.Deep
set_option linter.unusedVariables false
set_option linter.unusedSimpArgs false
set_option maxRecDepth 100000

theorem regField (c k : Int) (w : World) : (Instr.field 122 (.agg #[.int .i64 c, .int .i64 k]) 0).run Try.prog w = .ok (.int .i64 c) w := by kernel_rfl
/-- What is said of a node. -/
def NdPost (e : Nd) (w : World) (r : Ending) (w' : World) : Prop := ∃ b, r = .returned (.bool b) ∧ (b = true ↔ GoodN e) ∧ Below w.heap.size w w'
set_option maxHeartbeats 8000000 in
theorem good_core (e : Nd) (w : World) (hs : e.s.size ≤ maxLen) (ht : e.t.size ≤ maxLen) : Calls Try.prog 62 #[e.v] w (NdPost e w) := by
  obtain ⟨kind, s, hi, t, lo, up, n⟩ := e
  have HS : Hid (s.size ≤ maxLen) := hs
  unfold maxLen at hs ht
  simp only [] at hs ht
  obtain ⟨W0, hW0⟩ : ∃ W0 : World, W0 = w.alloc (Obj.cells #[.int .i64 kind, .string s, .bool hi, .string t, .int .u64 lo, .int .u64 up, .int .i64 n] 98) := ⟨_, rfl⟩
  have HW0 : Hid (BoxAt W0 w.heap.size 98 7 w.heap.size [.int .i64 kind, .string s, .bool hi, .string t, .int .u64 lo, .int .u64 up, .int .i64 n] ∧ Below w.heap.size w W0) := by
    rw [hW0]; exact ⟨boxAt_new w _ (Nat.le_refl _) rfl, (Below.refl _ _).alloc (Nat.le_refl _) _⟩
  have hbw := HW0.out.2.size
  have c0 := HW0.out.1.cell (j := 0) rfl
  have c1 := HW0.out.1.cell (j := 1) rfl
  have c2 := HW0.out.1.cell (j := 2) rfl
  have c3 := HW0.out.1.cell (j := 3) rfl
  have c4 := HW0.out.1.cell (j := 4) rfl
  have c5 := HW0.out.1.cell (j := 5) rfl
  have c6 := HW0.out.1.cell (j := 6) rfl
  go_enter Try.func62, Try.ntmps62
  go_upto_region 1 with fail
  rw [← hW0]
  clear hW0
  by_cases hgood : s.size ≤ 200 ∧ t.size ≤ 200 ∧ (hi = true ∨ (hi = false ∧ t.toList = [] ∧ up = 0))
  case neg =>
    have HG : Hid (¬ GoodN ⟨kind, s, hi, t, lo, up, n⟩) := fun q => hgood ⟨q.1, q.2.1, by
      cases hi
      · exact .inr ⟨rfl, q.2.2.1 rfl⟩
      · exact .inl rfl⟩
    by_cases h1 : s.size ≤ 200
    · have z1 : ¬ (200 : Int) < (s.size : Int) := by omega
      by_cases h2 : t.size ≤ 200
      · have z2 : ¬ (200 : Int) < (t.size : Int) := by omega
        have hhi : hi = false := by cases hi; rfl; exact absurd ⟨h1, h2, .inl rfl⟩ hgood
        subst hhi
        by_cases h3 : t.toList = []
        · have h4 : ¬ up = 0 := fun q => hgood ⟨h1, h2, .inr ⟨rfl, h3, q⟩⟩
          clear hgood
          go_wp2_with fail
          go_ret
          exact ⟨_, rfl, by simp [HG.out], HW0.out.2⟩
        · clear hgood
          go_wp2_with fail
          go_ret
          exact ⟨_, rfl, by simp [HG.out], HW0.out.2⟩
      · have z2 : (200 : Int) < (t.size : Int) := by omega
        clear hgood
        go_wp2_with fail
        go_ret
        exact ⟨_, rfl, by simp [HG.out], HW0.out.2⟩
    · have z1 : (200 : Int) < (s.size : Int) := by omega
      clear hgood
      go_wp2_with fail
      go_ret
      exact ⟨_, rfl, by simp [HG.out], HW0.out.2⟩
  have HG : Hid (s.size ≤ 200 ∧ t.size ≤ 200 ∧ (hi = false → t.toList = [] ∧ up = 0)) := ⟨hgood.1, hgood.2.1, fun q => hgood.2.2.elim (fun z => by rw [q] at z; cases z) (fun z => z.2)⟩
  go_cut [27] (fun s wx => s = .bool false ∧ wx = W0)
  case first =>
    have z1 : ¬ (200 : Int) < (s.size : Int) := by have := HG.out.1; omega
    have z2 : ¬ (200 : Int) < (t.size : Int) := by have := HG.out.2.1; omega
    rcases hgood.2.2 with rfl | ⟨rfl, h3, rfl⟩
    · go_wp2_with fail
      go_meet
      exact ⟨rfl, rfl⟩
    · go_wp2_with fail
      go_meet
      exact ⟨rfl, rfl⟩
  case rest =>
  obtain ⟨rfl, rfl⟩ := hcut
  clear hgood hs ht
  obtain ⟨c, hc⟩ : ∃ c, c = (checkM (sb s)).1 := ⟨_, rfl⟩
  obtain ⟨k, hk⟩ : ∃ k : Int, k = ((checkM (sb s)).2 : Int) := ⟨_, rfl⟩
  have HV : Hid (c = (checkM (sb s)).1) := hc
  have HC : Hid (∀ w, Calls Try.prog 80 #[.string s] w fun e w' => e = .returned (.agg #[.int .i64 c, .int .i64 k]) ∧ Below w.heap.size w w') := fun w => by
    rw [hc, hk]; exact specCheck_core s w HS.out
  clear hc hk
  by_cases k4 : kind = 4
  · subst k4
    go_wp2_with fail
    refine (bareS_core ⟨4, s, hi, t, lo, up, n⟩ _).mono ?_
    rintro r w1 ⟨b, rfl, hb, hb1⟩
    have HB : Hid (b = true ↔ (hi = false ∧ t.toList = [] ∧ lo = 0 ∧ up = 0 ∧ n = 0)) := hb
    have d0 := (HW0.out.1.below hb1).cell (j := 0) rfl
    have d1 := (HW0.out.1.below hb1).cell (j := 1) rfl
    have d2 := (HW0.out.1.below hb1).cell (j := 2) rfl
    have d3 := (HW0.out.1.below hb1).cell (j := 3) rfl
    have d4 := (HW0.out.1.below hb1).cell (j := 4) rfl
    have d5 := (HW0.out.1.below hb1).cell (j := 5) rfl
    have d6 := (HW0.out.1.below hb1).cell (j := 6) rfl
    clear hb
    cases b
    · have HF : Hid (¬ GoodN ⟨4, s, hi, t, lo, up, n⟩) := by
        show ¬ GoodN _
        have hB := HB.out
        intro q
        simp [GoodN] at q hB
        simp_all
      go_wp2_with fail
      go_ret
      exact ⟨_, rfl, by simp [HF.out], HW0.out.2.trans (hb1.mono hbw)⟩
    · have hfd := regField c k
      go_wp2_with fail
      refine (HC.out _).mono ?_
      rintro r w2 ⟨rfl, hb2⟩
      have hs1 := hb1.size
      have HK : Hid (Below w.heap.size w w2) := (HW0.out.2.trans (hb1.mono hbw)).trans (hb2.mono (by omega))
      clear hb1 hb2 d0 d1 d2 d3 d4 d5 d6
      go_wp2_with fail
      go_ret
      refine ⟨_, rfl, ?_, HK.out⟩
      have hG := HG.out
      have hB := HB.out
      simp at hB
      rw [HV.out]
      simp [GoodN]
      simp_all
  by_cases k5 : kind = 5
  · subst k5
    go_wp2_with fail
    refine (bareS_core ⟨5, s, hi, t, lo, up, n⟩ _).mono ?_
    rintro r w1 ⟨b, rfl, hb, hb1⟩
    have HB : Hid (b = true ↔ (hi = false ∧ t.toList = [] ∧ lo = 0 ∧ up = 0 ∧ n = 0)) := hb
    have d0 := (HW0.out.1.below hb1).cell (j := 0) rfl
    have d1 := (HW0.out.1.below hb1).cell (j := 1) rfl
    have d2 := (HW0.out.1.below hb1).cell (j := 2) rfl
    have d3 := (HW0.out.1.below hb1).cell (j := 3) rfl
    have d4 := (HW0.out.1.below hb1).cell (j := 4) rfl
    have d5 := (HW0.out.1.below hb1).cell (j := 5) rfl
    have d6 := (HW0.out.1.below hb1).cell (j := 6) rfl
    clear hb
    cases b
    · have HF : Hid (¬ GoodN ⟨5, s, hi, t, lo, up, n⟩) := by
        show ¬ GoodN _
        have hB := HB.out
        intro q
        simp [GoodN] at q hB
        simp_all
      go_wp2_with fail
      go_ret
      exact ⟨_, rfl, by simp [HF.out], HW0.out.2.trans (hb1.mono hbw)⟩
    · have hfd := regField c k
      go_wp2_with fail
      refine (HC.out _).mono ?_
      rintro r w2 ⟨rfl, hb2⟩
      have hs1 := hb1.size
      have HK : Hid (Below w.heap.size w w2) := (HW0.out.2.trans (hb1.mono hbw)).trans (hb2.mono (by omega))
      clear hb1 hb2 d0 d1 d2 d3 d4 d5 d6
      go_wp2_with fail
      go_ret
      refine ⟨_, rfl, ?_, HK.out⟩
      have hG := HG.out
      have hB := HB.out
      simp at hB
      rw [HV.out]
      simp [GoodN]
      simp_all
  by_cases k6 : kind = 6
  · subst k6
    go_wp2_with fail
    refine (bareS_core ⟨6, s, hi, t, lo, up, n⟩ _).mono ?_
    rintro r w1 ⟨b, rfl, hb, hb1⟩
    have HB : Hid (b = true ↔ (hi = false ∧ t.toList = [] ∧ lo = 0 ∧ up = 0 ∧ n = 0)) := hb
    have d0 := (HW0.out.1.below hb1).cell (j := 0) rfl
    have d1 := (HW0.out.1.below hb1).cell (j := 1) rfl
    have d2 := (HW0.out.1.below hb1).cell (j := 2) rfl
    have d3 := (HW0.out.1.below hb1).cell (j := 3) rfl
    have d4 := (HW0.out.1.below hb1).cell (j := 4) rfl
    have d5 := (HW0.out.1.below hb1).cell (j := 5) rfl
    have d6 := (HW0.out.1.below hb1).cell (j := 6) rfl
    clear hb
    cases b
    · have HF : Hid (¬ GoodN ⟨6, s, hi, t, lo, up, n⟩) := by
        show ¬ GoodN _
        have hB := HB.out
        intro q
        simp [GoodN] at q hB
        simp_all
      go_wp2_with fail
      go_ret
      exact ⟨_, rfl, by simp [HF.out], HW0.out.2.trans (hb1.mono hbw)⟩
    · have hfd := regField c k
      go_wp2_with fail
      refine (HC.out _).mono ?_
      rintro r w2 ⟨rfl, hb2⟩
      have hs1 := hb1.size
      have HK : Hid (Below w.heap.size w w2) := (HW0.out.2.trans (hb1.mono hbw)).trans (hb2.mono (by omega))
      clear hb1 hb2 d0 d1 d2 d3 d4 d5 d6
      go_wp2_with fail
      go_ret
      refine ⟨_, rfl, ?_, HK.out⟩
      have hG := HG.out
      have hB := HB.out
      simp at hB
      rw [HV.out]
      simp [GoodN]
      simp_all
  by_cases k7 : kind = 7
  · subst k7
    go_wp2_with fail
    refine (bareS_core ⟨7, s, hi, t, lo, up, n⟩ _).mono ?_
    rintro r w1 ⟨b, rfl, hb, hb1⟩
    have HB : Hid (b = true ↔ (hi = false ∧ t.toList = [] ∧ lo = 0 ∧ up = 0 ∧ n = 0)) := hb
    have d0 := (HW0.out.1.below hb1).cell (j := 0) rfl
    have d1 := (HW0.out.1.below hb1).cell (j := 1) rfl
    have d2 := (HW0.out.1.below hb1).cell (j := 2) rfl
    have d3 := (HW0.out.1.below hb1).cell (j := 3) rfl
    have d4 := (HW0.out.1.below hb1).cell (j := 4) rfl
    have d5 := (HW0.out.1.below hb1).cell (j := 5) rfl
    have d6 := (HW0.out.1.below hb1).cell (j := 6) rfl
    clear hb
    cases b
    · have HF : Hid (¬ GoodN ⟨7, s, hi, t, lo, up, n⟩) := by
        show ¬ GoodN _
        have hB := HB.out
        intro q
        simp [GoodN] at q hB
        simp_all
      go_wp2_with fail
      go_ret
      exact ⟨_, rfl, by simp [HF.out], HW0.out.2.trans (hb1.mono hbw)⟩
    · have hfd := regField c k
      go_wp2_with fail
      refine (HC.out _).mono ?_
      rintro r w2 ⟨rfl, hb2⟩
      have hs1 := hb1.size
      have HK : Hid (Below w.heap.size w w2) := (HW0.out.2.trans (hb1.mono hbw)).trans (hb2.mono (by omega))
      clear hb1 hb2 d0 d1 d2 d3 d4 d5 d6
      go_wp2_with fail
      go_ret
      refine ⟨_, rfl, ?_, HK.out⟩
      have hG := HG.out
      have hB := HB.out
      simp at hB
      rw [HV.out]
      simp [GoodN]
      simp_all
  by_cases k8 : kind = 8
  · subst k8
    go_wp2_with fail
    refine (bareST_core ⟨8, s, hi, t, lo, up, n⟩ _).mono ?_
    rintro r w1 ⟨b, rfl, hb, hb1⟩
    have HB : Hid (b = true ↔ (lo = 0 ∧ up = 0 ∧ n = 0)) := hb
    have d0 := (HW0.out.1.below hb1).cell (j := 0) rfl
    have d1 := (HW0.out.1.below hb1).cell (j := 1) rfl
    have d2 := (HW0.out.1.below hb1).cell (j := 2) rfl
    have d3 := (HW0.out.1.below hb1).cell (j := 3) rfl
    have d4 := (HW0.out.1.below hb1).cell (j := 4) rfl
    have d5 := (HW0.out.1.below hb1).cell (j := 5) rfl
    have d6 := (HW0.out.1.below hb1).cell (j := 6) rfl
    clear hb
    cases b
    · have HF : Hid (¬ GoodN ⟨8, s, hi, t, lo, up, n⟩) := by
        show ¬ GoodN _
        have hB := HB.out
        intro q
        simp [GoodN] at q hB
        simp_all
      go_wp2_with fail
      go_ret
      exact ⟨_, rfl, by simp [HF.out], HW0.out.2.trans (hb1.mono hbw)⟩
    · have HF : Hid (GoodN ⟨8, s, hi, t, lo, up, n⟩ ↔ (hi = true → less s t)) := by
        show GoodN _ ↔ _
        have hB := HB.out
        have hG := HG.out
        simp at hB
        simp [GoodN]
        simp_all
      cases hi
      · go_wp2_with fail
        go_ret
        exact ⟨_, rfl, by simp [HF.out], HW0.out.2.trans (hb1.mono hbw)⟩
      · go_wp2_with fail
        go_ret
        exact ⟨_, rfl, by simp [HF.out, less], HW0.out.2.trans (hb1.mono hbw)⟩
  by_cases k9 : kind = 9
  · subst k9
    go_wp2_with fail
    refine (bareST_core ⟨9, s, hi, t, lo, up, n⟩ _).mono ?_
    rintro r w1 ⟨b, rfl, hb, hb1⟩
    have HB : Hid (b = true ↔ (lo = 0 ∧ up = 0 ∧ n = 0)) := hb
    have d0 := (HW0.out.1.below hb1).cell (j := 0) rfl
    have d1 := (HW0.out.1.below hb1).cell (j := 1) rfl
    have d2 := (HW0.out.1.below hb1).cell (j := 2) rfl
    have d3 := (HW0.out.1.below hb1).cell (j := 3) rfl
    have d4 := (HW0.out.1.below hb1).cell (j := 4) rfl
    have d5 := (HW0.out.1.below hb1).cell (j := 5) rfl
    have d6 := (HW0.out.1.below hb1).cell (j := 6) rfl
    clear hb
    cases b
    · have HF : Hid (¬ GoodN ⟨9, s, hi, t, lo, up, n⟩) := by
        show ¬ GoodN _
        have hB := HB.out
        intro q
        simp [GoodN] at q hB
        simp_all
      go_wp2_with fail
      go_ret
      exact ⟨_, rfl, by simp [HF.out], HW0.out.2.trans (hb1.mono hbw)⟩
    · have HF : Hid (GoodN ⟨9, s, hi, t, lo, up, n⟩ ↔ (hi = true → less s t)) := by
        show GoodN _ ↔ _
        have hB := HB.out
        have hG := HG.out
        simp at hB
        simp [GoodN]
        simp_all
      cases hi
      · go_wp2_with fail
        go_ret
        exact ⟨_, rfl, by simp [HF.out], HW0.out.2.trans (hb1.mono hbw)⟩
      · go_wp2_with fail
        go_ret
        exact ⟨_, rfl, by simp [HF.out, less], HW0.out.2.trans (hb1.mono hbw)⟩
  by_cases k10 : kind = 10
  · subst k10
    go_wp2_with fail
    refine (bareN_core ⟨10, s, hi, t, lo, up, n⟩ _).mono ?_
    rintro r w1 ⟨b, rfl, hb, hb1⟩
    have HB : Hid (b = true ↔ (s.toList = [] ∧ t.toList = [] ∧ n = 0)) := hb
    have d0 := (HW0.out.1.below hb1).cell (j := 0) rfl
    have d1 := (HW0.out.1.below hb1).cell (j := 1) rfl
    have d2 := (HW0.out.1.below hb1).cell (j := 2) rfl
    have d3 := (HW0.out.1.below hb1).cell (j := 3) rfl
    have d4 := (HW0.out.1.below hb1).cell (j := 4) rfl
    have d5 := (HW0.out.1.below hb1).cell (j := 5) rfl
    have d6 := (HW0.out.1.below hb1).cell (j := 6) rfl
    clear hb
    cases b
    · have HF : Hid (¬ GoodN ⟨10, s, hi, t, lo, up, n⟩) := by
        show ¬ GoodN _
        have hB := HB.out
        intro q
        simp [GoodN] at q hB
        simp_all
      go_wp2_with fail
      go_ret
      exact ⟨_, rfl, by simp [HF.out], HW0.out.2.trans (hb1.mono hbw)⟩
    · have HF : Hid (GoodN ⟨10, s, hi, t, lo, up, n⟩ ↔ (hi = true → lo < up)) := by
        show GoodN _ ↔ _
        have hB := HB.out
        have hG := HG.out
        simp at hB
        simp [GoodN]
        simp_all
      cases hi
      · go_wp2_with fail
        go_ret
        exact ⟨_, rfl, by simp [HF.out], HW0.out.2.trans (hb1.mono hbw)⟩
      · go_wp2_with fail
        go_ret
        exact ⟨_, rfl, by simp [HF.out], HW0.out.2.trans (hb1.mono hbw)⟩
  by_cases k11 : kind = 11
  · subst k11
    go_wp2_with fail
    refine (bareC_core ⟨11, s, hi, t, lo, up, n⟩ _).mono ?_
    rintro r w1 ⟨b, rfl, hb, hb1⟩
    have HB : Hid (b = true ↔ (s.toList = [] ∧ hi = false ∧ t.toList = [] ∧ lo = 0 ∧ up = 0)) := hb
    have d0 := (HW0.out.1.below hb1).cell (j := 0) rfl
    have d1 := (HW0.out.1.below hb1).cell (j := 1) rfl
    have d2 := (HW0.out.1.below hb1).cell (j := 2) rfl
    have d3 := (HW0.out.1.below hb1).cell (j := 3) rfl
    have d4 := (HW0.out.1.below hb1).cell (j := 4) rfl
    have d5 := (HW0.out.1.below hb1).cell (j := 5) rfl
    have d6 := (HW0.out.1.below hb1).cell (j := 6) rfl
    clear hb
    cases b
    · have HF : Hid (¬ GoodN ⟨11, s, hi, t, lo, up, n⟩) := by
        show ¬ GoodN _
        have hB := HB.out
        intro q
        simp [GoodN] at q hB
        simp_all
      go_wp2_with fail
      go_ret
      exact ⟨_, rfl, by simp [HF.out], HW0.out.2.trans (hb1.mono hbw)⟩
    · have HF : Hid (GoodN ⟨11, s, hi, t, lo, up, n⟩ ↔ (1 ≤ n ∧ n ≤ 1000)) := by
        show GoodN _ ↔ _
        have hB := HB.out
        have hG := HG.out
        simp at hB
        simp [GoodN]
        simp_all
      by_cases h1 : 1 ≤ n
      · go_wp2_with fail
        go_ret
        exact ⟨_, rfl, by rw [HF.out]; simp; omega, HW0.out.2.trans (hb1.mono hbw)⟩
      · go_wp2_with fail
        go_ret
        exact ⟨_, rfl, by rw [HF.out]; simp; omega, HW0.out.2.trans (hb1.mono hbw)⟩
  by_cases k12 : kind = 12
  · subst k12
    go_wp2_with fail
    refine (bareC_core ⟨12, s, hi, t, lo, up, n⟩ _).mono ?_
    rintro r w1 ⟨b, rfl, hb, hb1⟩
    have HB : Hid (b = true ↔ (s.toList = [] ∧ hi = false ∧ t.toList = [] ∧ lo = 0 ∧ up = 0)) := hb
    have d0 := (HW0.out.1.below hb1).cell (j := 0) rfl
    have d1 := (HW0.out.1.below hb1).cell (j := 1) rfl
    have d2 := (HW0.out.1.below hb1).cell (j := 2) rfl
    have d3 := (HW0.out.1.below hb1).cell (j := 3) rfl
    have d4 := (HW0.out.1.below hb1).cell (j := 4) rfl
    have d5 := (HW0.out.1.below hb1).cell (j := 5) rfl
    have d6 := (HW0.out.1.below hb1).cell (j := 6) rfl
    clear hb
    cases b
    · have HF : Hid (¬ GoodN ⟨12, s, hi, t, lo, up, n⟩) := by
        show ¬ GoodN _
        have hB := HB.out
        intro q
        simp [GoodN] at q hB
        simp_all
      go_wp2_with fail
      go_ret
      exact ⟨_, rfl, by simp [HF.out], HW0.out.2.trans (hb1.mono hbw)⟩
    · have HF : Hid (GoodN ⟨12, s, hi, t, lo, up, n⟩ ↔ (1 ≤ n ∧ n ≤ 1000)) := by
        show GoodN _ ↔ _
        have hB := HB.out
        have hG := HG.out
        simp at hB
        simp [GoodN]
        simp_all
      by_cases h1 : 1 ≤ n
      · go_wp2_with fail
        go_ret
        exact ⟨_, rfl, by rw [HF.out]; simp; omega, HW0.out.2.trans (hb1.mono hbw)⟩
      · go_wp2_with fail
        go_ret
        exact ⟨_, rfl, by rw [HF.out]; simp; omega, HW0.out.2.trans (hb1.mono hbw)⟩
  by_cases k13 : kind = 13
  · subst k13
    go_wp2_with fail
    refine (bareC_core ⟨13, s, hi, t, lo, up, n⟩ _).mono ?_
    rintro r w1 ⟨b, rfl, hb, hb1⟩
    have HB : Hid (b = true ↔ (s.toList = [] ∧ hi = false ∧ t.toList = [] ∧ lo = 0 ∧ up = 0)) := hb
    have d0 := (HW0.out.1.below hb1).cell (j := 0) rfl
    have d1 := (HW0.out.1.below hb1).cell (j := 1) rfl
    have d2 := (HW0.out.1.below hb1).cell (j := 2) rfl
    have d3 := (HW0.out.1.below hb1).cell (j := 3) rfl
    have d4 := (HW0.out.1.below hb1).cell (j := 4) rfl
    have d5 := (HW0.out.1.below hb1).cell (j := 5) rfl
    have d6 := (HW0.out.1.below hb1).cell (j := 6) rfl
    clear hb
    cases b
    · have HF : Hid (¬ GoodN ⟨13, s, hi, t, lo, up, n⟩) := by
        show ¬ GoodN _
        have hB := HB.out
        intro q
        simp [GoodN] at q hB
        simp_all
      go_wp2_with fail
      go_ret
      exact ⟨_, rfl, by simp [HF.out], HW0.out.2.trans (hb1.mono hbw)⟩
    · have HF : Hid (GoodN ⟨13, s, hi, t, lo, up, n⟩ ↔ (1 ≤ n ∧ n ≤ 1000)) := by
        show GoodN _ ↔ _
        have hB := HB.out
        have hG := HG.out
        simp at hB
        simp [GoodN]
        simp_all
      by_cases h1 : 1 ≤ n
      · go_wp2_with fail
        go_ret
        exact ⟨_, rfl, by rw [HF.out]; simp; omega, HW0.out.2.trans (hb1.mono hbw)⟩
      · go_wp2_with fail
        go_ret
        exact ⟨_, rfl, by rw [HF.out]; simp; omega, HW0.out.2.trans (hb1.mono hbw)⟩
  by_cases k1 : kind = 1
  · subst k1
    go_wp2_with fail
    refine (bareZ_core ⟨1, s, hi, t, lo, up, n⟩ _).mono ?_
    rintro r w1 ⟨b, rfl, hb, hb1⟩
    have HB : Hid (b = true ↔ (s.toList = [] ∧ hi = false ∧ t.toList = [] ∧ lo = 0 ∧ up = 0 ∧ n = 0)) := hb
    have HF : Hid (b = true ↔ GoodN ⟨1, s, hi, t, lo, up, n⟩) := by
      show b = true ↔ GoodN _
      have hB := HB.out
      have hG := HG.out
      rw [hB]
      simp [GoodN]
      simp_all
    clear hb
    go_wp2_with fail
    go_ret
    exact ⟨_, rfl, HF.out, HW0.out.2.trans (hb1.mono hbw)⟩
  by_cases k2 : kind = 2
  · subst k2
    go_wp2_with fail
    refine (bareZ_core ⟨2, s, hi, t, lo, up, n⟩ _).mono ?_
    rintro r w1 ⟨b, rfl, hb, hb1⟩
    have HB : Hid (b = true ↔ (s.toList = [] ∧ hi = false ∧ t.toList = [] ∧ lo = 0 ∧ up = 0 ∧ n = 0)) := hb
    have HF : Hid (b = true ↔ GoodN ⟨2, s, hi, t, lo, up, n⟩) := by
      show b = true ↔ GoodN _
      have hB := HB.out
      have hG := HG.out
      rw [hB]
      simp [GoodN]
      simp_all
    clear hb
    go_wp2_with fail
    go_ret
    exact ⟨_, rfl, HF.out, HW0.out.2.trans (hb1.mono hbw)⟩
  by_cases k3 : kind = 3
  · subst k3
    go_wp2_with fail
    refine (bareZ_core ⟨3, s, hi, t, lo, up, n⟩ _).mono ?_
    rintro r w1 ⟨b, rfl, hb, hb1⟩
    have HB : Hid (b = true ↔ (s.toList = [] ∧ hi = false ∧ t.toList = [] ∧ lo = 0 ∧ up = 0 ∧ n = 0)) := hb
    have HF : Hid (b = true ↔ GoodN ⟨3, s, hi, t, lo, up, n⟩) := by
      show b = true ↔ GoodN _
      have hB := HB.out
      have hG := HG.out
      rw [hB]
      simp [GoodN]
      simp_all
    clear hb
    go_wp2_with fail
    go_ret
    exact ⟨_, rfl, HF.out, HW0.out.2.trans (hb1.mono hbw)⟩
  by_cases k14 : kind = 14
  · subst k14
    go_wp2_with fail
    refine (bareZ_core ⟨14, s, hi, t, lo, up, n⟩ _).mono ?_
    rintro r w1 ⟨b, rfl, hb, hb1⟩
    have HB : Hid (b = true ↔ (s.toList = [] ∧ hi = false ∧ t.toList = [] ∧ lo = 0 ∧ up = 0 ∧ n = 0)) := hb
    have HF : Hid (b = true ↔ GoodN ⟨14, s, hi, t, lo, up, n⟩) := by
      show b = true ↔ GoodN _
      have hB := HB.out
      have hG := HG.out
      rw [hB]
      simp [GoodN]
      simp_all
    clear hb
    go_wp2_with fail
    go_ret
    exact ⟨_, rfl, HF.out, HW0.out.2.trans (hb1.mono hbw)⟩
  by_cases k15 : kind = 15
  · subst k15
    go_wp2_with fail
    refine (bareZ_core ⟨15, s, hi, t, lo, up, n⟩ _).mono ?_
    rintro r w1 ⟨b, rfl, hb, hb1⟩
    have HB : Hid (b = true ↔ (s.toList = [] ∧ hi = false ∧ t.toList = [] ∧ lo = 0 ∧ up = 0 ∧ n = 0)) := hb
    have HF : Hid (b = true ↔ GoodN ⟨15, s, hi, t, lo, up, n⟩) := by
      show b = true ↔ GoodN _
      have hB := HB.out
      have hG := HG.out
      rw [hB]
      simp [GoodN]
      simp_all
    clear hb
    go_wp2_with fail
    go_ret
    exact ⟨_, rfl, HF.out, HW0.out.2.trans (hb1.mono hbw)⟩
  by_cases k16 : kind = 16
  · subst k16
    go_wp2_with fail
    refine (bareZ_core ⟨16, s, hi, t, lo, up, n⟩ _).mono ?_
    rintro r w1 ⟨b, rfl, hb, hb1⟩
    have HB : Hid (b = true ↔ (s.toList = [] ∧ hi = false ∧ t.toList = [] ∧ lo = 0 ∧ up = 0 ∧ n = 0)) := hb
    have HF : Hid (b = true ↔ GoodN ⟨16, s, hi, t, lo, up, n⟩) := by
      show b = true ↔ GoodN _
      have hB := HB.out
      have hG := HG.out
      rw [hB]
      simp [GoodN]
      simp_all
    clear hb
    go_wp2_with fail
    go_ret
    exact ⟨_, rfl, HF.out, HW0.out.2.trans (hb1.mono hbw)⟩
  have HF : Hid (¬ GoodN ⟨kind, s, hi, t, lo, up, n⟩) := by
    show ¬ GoodN _
    simp only [GoodN]
    rintro ⟨_, _, _, q⟩
    omega
  have hkk : ¬ (1 ≤ kind ∧ kind ≤ 16) := by omega
  by_cases k0 : 1 ≤ kind
  · have k17 : ¬ kind ≤ 16 := fun q => hkk ⟨k0, q⟩
    go_wp2_with fail
    go_ret
    exact ⟨_, rfl, by simp [HF.out], HW0.out.2⟩
  · go_wp2_with fail
    go_ret
    exact ⟨_, rfl, by simp [HF.out], HW0.out.2⟩
end Go.Proofs.Ytnncedndlhfdkab

/-
  impl.validNode.
-/
namespace Go.Proofs.Ytnncedndlhfdkab
open Go.ChangeShapes Go.WideShapes Go.ChangeAt Go.RowKit Go.Deep
set_option linter.unusedVariables false
set_option linter.unusedSimpArgs false
set_option maxRecDepth 100000

theorem emptyL : (⟨#[]⟩ : ByteArray).toList = [] := by first | (simp; done) | (kernel_rfl; done) | (go_simp; done)
theorem lessL : Op.bytesLess [] [] = false := by first | (kernel_rfl; done) | (decide; done) | (simp [Op.bytesLess]; done)
theorem ndEq_is (k : Int) (s : ByteArray) (h : Bool) (t : ByteArray) (l u n k' : Int) (s' : ByteArray) (h' : Bool) (t' : ByteArray) (l' u' n' : Int) (B : Bool) (hB : B = decide (k = k' ∧ s.toList = s'.toList ∧ h = h' ∧ t.toList = t'.toList ∧ l = l' ∧ u = u' ∧ n = n')) (wx : World) :
    (binOp .eql 98 (.agg #[.int .i64 k, .string s, .bool h, .string t, .int .u64 l, .int .u64 u, .int .i64 n]) (.agg #[.int .i64 k', .string s', .bool h', .string t', .int .u64 l', .int .u64 u', .int .i64 n'])).run Try.prog wx = .ok (.bool B) wx := by
  rw [hB]; exact ndEq_run k s h t l u n k' s' h' t' l' u' n' wx
set_option maxHeartbeats 8000000 in
theorem validNode_core (e : Nd) (w : World) (hs : e.s.size ≤ maxLen) (ht : e.t.size ≤ maxLen) : Calls Try.prog 87 #[e.v] w (NdPost e w) := by
  obtain ⟨kind, s, hi, t, lo, up, n⟩ := e
  have HS : Hid (s.size ≤ maxLen) := hs
  unfold maxLen at hs ht
  simp only [] at hs ht
  obtain ⟨W0, hW0⟩ : ∃ W0 : World, W0 = w.alloc (Obj.cells #[.int .i64 kind, .string s, .bool hi, .string t, .int .u64 lo, .int .u64 up, .int .i64 n] 98) := ⟨_, rfl⟩
  have HW0 : Hid (BoxAt W0 w.heap.size 98 7 w.heap.size [.int .i64 kind, .string s, .bool hi, .string t, .int .u64 lo, .int .u64 up, .int .i64 n] ∧ Below w.heap.size w W0) := by
    rw [hW0]; exact ⟨boxAt_new w _ (Nat.le_refl _) rfl, (Below.refl _ _).alloc (Nat.le_refl _) _⟩
  have hbw := HW0.out.2.size
  have c0 := HW0.out.1.cell (j := 0) rfl
  have c1 := HW0.out.1.cell (j := 1) rfl
  have c2 := HW0.out.1.cell (j := 2) rfl
  have c3 := HW0.out.1.cell (j := 3) rfl
  have c4 := HW0.out.1.cell (j := 4) rfl
  have c5 := HW0.out.1.cell (j := 5) rfl
  have c6 := HW0.out.1.cell (j := 6) rfl
  go_enter Try.func87, Try.ntmps87
  go_upto_region 1 with fail
  rw [← hW0]
  clear hW0
  by_cases hgood : s.size ≤ 200 ∧ t.size ≤ 200
  case neg =>
    have HG : Hid (¬ GoodN ⟨kind, s, hi, t, lo, up, n⟩) := fun q => hgood ⟨q.1, q.2.1⟩
    by_cases h1 : s.size ≤ 200
    · have z1 : ¬ (200 : Int) < (s.size : Int) := by omega
      have h2 : ¬ t.size ≤ 200 := fun q => hgood ⟨h1, q⟩
      have z2 : (200 : Int) < (t.size : Int) := by omega
      clear hgood
      go_wp2_with fail
      go_ret
      exact ⟨_, rfl, by simp [HG.out], HW0.out.2⟩
    · have z1 : (200 : Int) < (s.size : Int) := by omega
      clear hgood
      go_wp2_with fail
      go_ret
      exact ⟨_, rfl, by simp [HG.out], HW0.out.2⟩
  have HG : Hid (s.size ≤ 200 ∧ t.size ≤ 200) := hgood
  have z1 : ¬ (200 : Int) < (s.size : Int) := by omega
  have z2 : ¬ (200 : Int) < (t.size : Int) := by omega
  clear hgood hs ht
  obtain ⟨c, hc⟩ : ∃ c, c = (checkM (sb s)).1 := ⟨_, rfl⟩
  obtain ⟨k, hk⟩ : ∃ k : Int, k = ((checkM (sb s)).2 : Int) := ⟨_, rfl⟩
  have HV : Hid (c = (checkM (sb s)).1) := hc
  have HC : Hid (∀ w, Calls Try.prog 106 #[.string s] w fun e w' => e = .returned (.agg #[.int .i64 c, .int .i64 k]) ∧ Below w.heap.size w w') := fun w => by
    rw [hc, hk]; exact implCheck_core s w HS.out
  clear hc hk
  by_cases k1 : kind = 1
  · subst k1
    obtain ⟨B, hB⟩ : ∃ B, B = decide ((1 : Int) = 1 ∧ s.toList = (⟨#[]⟩ : ByteArray).toList ∧ hi = false ∧ t.toList = (⟨#[]⟩ : ByteArray).toList ∧ lo = 0 ∧ up = 0 ∧ n = 0) := ⟨_, rfl⟩
    have hq := ndEq_is 1 s hi t lo up n 1 ⟨#[]⟩ false ⟨#[]⟩ 0 0 0 B hB
    have HB : Hid (B = true ↔ (1 : Int) = 1 ∧ s.toList = (⟨#[]⟩ : ByteArray).toList ∧ hi = false ∧ t.toList = (⟨#[]⟩ : ByteArray).toList ∧ lo = 0 ∧ up = 0 ∧ n = 0) := by rw [hB]; show decide _ = true ↔ _; simp only [decide_eq_true_eq]
    clear hB
    have HF : Hid (B = true ↔ GoodN ⟨1, s, hi, t, lo, up, n⟩) := by
      show B = true ↔ GoodN _
      have hB := HB.out
      have hG := HG.out
      have hE := emptyL
      try simp only [hE] at hB
      rw [hB]
      simp [GoodN]
      constructor
      · rintro ⟨q1, q2, q3, q4, q5, q6⟩
        simp_all
      · rintro ⟨q1, q2, q3, q4⟩
        simp_all
    go_wp2_with fail
    go_ret
    exact ⟨_, rfl, HF.out, HW0.out.2⟩
  by_cases k2 : kind = 2
  · subst k2
    obtain ⟨B, hB⟩ : ∃ B, B = decide ((2 : Int) = 2 ∧ s.toList = (⟨#[]⟩ : ByteArray).toList ∧ hi = false ∧ t.toList = (⟨#[]⟩ : ByteArray).toList ∧ lo = 0 ∧ up = 0 ∧ n = 0) := ⟨_, rfl⟩
    have hq := ndEq_is 2 s hi t lo up n 2 ⟨#[]⟩ false ⟨#[]⟩ 0 0 0 B hB
    have HB : Hid (B = true ↔ (2 : Int) = 2 ∧ s.toList = (⟨#[]⟩ : ByteArray).toList ∧ hi = false ∧ t.toList = (⟨#[]⟩ : ByteArray).toList ∧ lo = 0 ∧ up = 0 ∧ n = 0) := by rw [hB]; show decide _ = true ↔ _; simp only [decide_eq_true_eq]
    clear hB
    have HF : Hid (B = true ↔ GoodN ⟨2, s, hi, t, lo, up, n⟩) := by
      show B = true ↔ GoodN _
      have hB := HB.out
      have hG := HG.out
      have hE := emptyL
      try simp only [hE] at hB
      rw [hB]
      simp [GoodN]
      constructor
      · rintro ⟨q1, q2, q3, q4, q5, q6⟩
        simp_all
      · rintro ⟨q1, q2, q3, q4⟩
        simp_all
    go_wp2_with fail
    go_ret
    exact ⟨_, rfl, HF.out, HW0.out.2⟩
  by_cases k3 : kind = 3
  · subst k3
    obtain ⟨B, hB⟩ : ∃ B, B = decide ((3 : Int) = 3 ∧ s.toList = (⟨#[]⟩ : ByteArray).toList ∧ hi = false ∧ t.toList = (⟨#[]⟩ : ByteArray).toList ∧ lo = 0 ∧ up = 0 ∧ n = 0) := ⟨_, rfl⟩
    have hq := ndEq_is 3 s hi t lo up n 3 ⟨#[]⟩ false ⟨#[]⟩ 0 0 0 B hB
    have HB : Hid (B = true ↔ (3 : Int) = 3 ∧ s.toList = (⟨#[]⟩ : ByteArray).toList ∧ hi = false ∧ t.toList = (⟨#[]⟩ : ByteArray).toList ∧ lo = 0 ∧ up = 0 ∧ n = 0) := by rw [hB]; show decide _ = true ↔ _; simp only [decide_eq_true_eq]
    clear hB
    have HF : Hid (B = true ↔ GoodN ⟨3, s, hi, t, lo, up, n⟩) := by
      show B = true ↔ GoodN _
      have hB := HB.out
      have hG := HG.out
      have hE := emptyL
      try simp only [hE] at hB
      rw [hB]
      simp [GoodN]
      constructor
      · rintro ⟨q1, q2, q3, q4, q5, q6⟩
        simp_all
      · rintro ⟨q1, q2, q3, q4⟩
        simp_all
    go_wp2_with fail
    go_ret
    exact ⟨_, rfl, HF.out, HW0.out.2⟩
  by_cases k14 : kind = 14
  · subst k14
    obtain ⟨B, hB⟩ : ∃ B, B = decide ((14 : Int) = 14 ∧ s.toList = (⟨#[]⟩ : ByteArray).toList ∧ hi = false ∧ t.toList = (⟨#[]⟩ : ByteArray).toList ∧ lo = 0 ∧ up = 0 ∧ n = 0) := ⟨_, rfl⟩
    have hq := ndEq_is 14 s hi t lo up n 14 ⟨#[]⟩ false ⟨#[]⟩ 0 0 0 B hB
    have HB : Hid (B = true ↔ (14 : Int) = 14 ∧ s.toList = (⟨#[]⟩ : ByteArray).toList ∧ hi = false ∧ t.toList = (⟨#[]⟩ : ByteArray).toList ∧ lo = 0 ∧ up = 0 ∧ n = 0) := by rw [hB]; show decide _ = true ↔ _; simp only [decide_eq_true_eq]
    clear hB
    have HF : Hid (B = true ↔ GoodN ⟨14, s, hi, t, lo, up, n⟩) := by
      show B = true ↔ GoodN _
      have hB := HB.out
      have hG := HG.out
      have hE := emptyL
      try simp only [hE] at hB
      rw [hB]
      simp [GoodN]
      constructor
      · rintro ⟨q1, q2, q3, q4, q5, q6⟩
        simp_all
      · rintro ⟨q1, q2, q3, q4⟩
        simp_all
    go_wp2_with fail
    go_ret
    exact ⟨_, rfl, HF.out, HW0.out.2⟩
  by_cases k15 : kind = 15
  · subst k15
    obtain ⟨B, hB⟩ : ∃ B, B = decide ((15 : Int) = 15 ∧ s.toList = (⟨#[]⟩ : ByteArray).toList ∧ hi = false ∧ t.toList = (⟨#[]⟩ : ByteArray).toList ∧ lo = 0 ∧ up = 0 ∧ n = 0) := ⟨_, rfl⟩
    have hq := ndEq_is 15 s hi t lo up n 15 ⟨#[]⟩ false ⟨#[]⟩ 0 0 0 B hB
    have HB : Hid (B = true ↔ (15 : Int) = 15 ∧ s.toList = (⟨#[]⟩ : ByteArray).toList ∧ hi = false ∧ t.toList = (⟨#[]⟩ : ByteArray).toList ∧ lo = 0 ∧ up = 0 ∧ n = 0) := by rw [hB]; show decide _ = true ↔ _; simp only [decide_eq_true_eq]
    clear hB
    have HF : Hid (B = true ↔ GoodN ⟨15, s, hi, t, lo, up, n⟩) := by
      show B = true ↔ GoodN _
      have hB := HB.out
      have hG := HG.out
      have hE := emptyL
      try simp only [hE] at hB
      rw [hB]
      simp [GoodN]
      constructor
      · rintro ⟨q1, q2, q3, q4, q5, q6⟩
        simp_all
      · rintro ⟨q1, q2, q3, q4⟩
        simp_all
    go_wp2_with fail
    go_ret
    exact ⟨_, rfl, HF.out, HW0.out.2⟩
  by_cases k16 : kind = 16
  · subst k16
    obtain ⟨B, hB⟩ : ∃ B, B = decide ((16 : Int) = 16 ∧ s.toList = (⟨#[]⟩ : ByteArray).toList ∧ hi = false ∧ t.toList = (⟨#[]⟩ : ByteArray).toList ∧ lo = 0 ∧ up = 0 ∧ n = 0) := ⟨_, rfl⟩
    have hq := ndEq_is 16 s hi t lo up n 16 ⟨#[]⟩ false ⟨#[]⟩ 0 0 0 B hB
    have HB : Hid (B = true ↔ (16 : Int) = 16 ∧ s.toList = (⟨#[]⟩ : ByteArray).toList ∧ hi = false ∧ t.toList = (⟨#[]⟩ : ByteArray).toList ∧ lo = 0 ∧ up = 0 ∧ n = 0) := by rw [hB]; show decide _ = true ↔ _; simp only [decide_eq_true_eq]
    clear hB
    have HF : Hid (B = true ↔ GoodN ⟨16, s, hi, t, lo, up, n⟩) := by
      show B = true ↔ GoodN _
      have hB := HB.out
      have hG := HG.out
      have hE := emptyL
      try simp only [hE] at hB
      rw [hB]
      simp [GoodN]
      constructor
      · rintro ⟨q1, q2, q3, q4, q5, q6⟩
        simp_all
      · rintro ⟨q1, q2, q3, q4⟩
        simp_all
    go_wp2_with fail
    go_ret
    exact ⟨_, rfl, HF.out, HW0.out.2⟩
  by_cases k4 : kind = 4
  · subst k4
    obtain ⟨B, hB⟩ : ∃ B, B = decide ((4 : Int) = 4 ∧ s.toList = s.toList ∧ hi = false ∧ t.toList = (⟨#[]⟩ : ByteArray).toList ∧ lo = 0 ∧ up = 0 ∧ n = 0) := ⟨_, rfl⟩
    have hq := ndEq_is 4 s hi t lo up n 4 s false ⟨#[]⟩ 0 0 0 B hB
    have HB : Hid (B = true ↔ (4 : Int) = 4 ∧ s.toList = s.toList ∧ hi = false ∧ t.toList = (⟨#[]⟩ : ByteArray).toList ∧ lo = 0 ∧ up = 0 ∧ n = 0) := by rw [hB]; show decide _ = true ↔ _; simp only [decide_eq_true_eq]
    clear hB
    cases B
    · have HF : Hid (¬ GoodN ⟨4, s, hi, t, lo, up, n⟩) := by
        show ¬ GoodN _
        have hB := HB.out
        have hE := emptyL
        try simp only [hE] at hB
        intro q
        simp [GoodN] at q hB
        simp_all
      go_wp2_with fail
      go_ret
      exact ⟨_, rfl, by simp [HF.out], HW0.out.2⟩
    · have HF : Hid (GoodN ⟨4, s, hi, t, lo, up, n⟩ ↔ c = 0) := by
        show GoodN _ ↔ _
        have hB := HB.out
        have hG := HG.out
        have hE := emptyL
        try simp only [hE] at hB
        rw [HV.out]
        simp at hB
        simp [GoodN]
        simp_all
      have hfd := regField c k
      go_wp2_with fail
      refine (HC.out _).mono ?_
      rintro r w2 ⟨rfl, hb2⟩
      clear c0 c1 c2 c3 c4 c5 c6
      go_wp2_with fail
      go_ret
      exact ⟨_, rfl, by rw [HF.out]; simp, HW0.out.2.trans (hb2.mono hbw)⟩
  by_cases k5 : kind = 5
  · subst k5
    obtain ⟨B, hB⟩ : ∃ B, B = decide ((5 : Int) = 5 ∧ s.toList = s.toList ∧ hi = false ∧ t.toList = (⟨#[]⟩ : ByteArray).toList ∧ lo = 0 ∧ up = 0 ∧ n = 0) := ⟨_, rfl⟩
    have hq := ndEq_is 5 s hi t lo up n 5 s false ⟨#[]⟩ 0 0 0 B hB
    have HB : Hid (B = true ↔ (5 : Int) = 5 ∧ s.toList = s.toList ∧ hi = false ∧ t.toList = (⟨#[]⟩ : ByteArray).toList ∧ lo = 0 ∧ up = 0 ∧ n = 0) := by rw [hB]; show decide _ = true ↔ _; simp only [decide_eq_true_eq]
    clear hB
    cases B
    · have HF : Hid (¬ GoodN ⟨5, s, hi, t, lo, up, n⟩) := by
        show ¬ GoodN _
        have hB := HB.out
        have hE := emptyL
        try simp only [hE] at hB
        intro q
        simp [GoodN] at q hB
        simp_all
      go_wp2_with fail
      go_ret
      exact ⟨_, rfl, by simp [HF.out], HW0.out.2⟩
    · have HF : Hid (GoodN ⟨5, s, hi, t, lo, up, n⟩ ↔ c = 0) := by
        show GoodN _ ↔ _
        have hB := HB.out
        have hG := HG.out
        have hE := emptyL
        try simp only [hE] at hB
        rw [HV.out]
        simp at hB
        simp [GoodN]
        simp_all
      have hfd := regField c k
      go_wp2_with fail
      refine (HC.out _).mono ?_
      rintro r w2 ⟨rfl, hb2⟩
      clear c0 c1 c2 c3 c4 c5 c6
      go_wp2_with fail
      go_ret
      exact ⟨_, rfl, by rw [HF.out]; simp, HW0.out.2.trans (hb2.mono hbw)⟩
  by_cases k6 : kind = 6
  · subst k6
    obtain ⟨B, hB⟩ : ∃ B, B = decide ((6 : Int) = 6 ∧ s.toList = s.toList ∧ hi = false ∧ t.toList = (⟨#[]⟩ : ByteArray).toList ∧ lo = 0 ∧ up = 0 ∧ n = 0) := ⟨_, rfl⟩
    have hq := ndEq_is 6 s hi t lo up n 6 s false ⟨#[]⟩ 0 0 0 B hB
    have HB : Hid (B = true ↔ (6 : Int) = 6 ∧ s.toList = s.toList ∧ hi = false ∧ t.toList = (⟨#[]⟩ : ByteArray).toList ∧ lo = 0 ∧ up = 0 ∧ n = 0) := by rw [hB]; show decide _ = true ↔ _; simp only [decide_eq_true_eq]
    clear hB
    cases B
    · have HF : Hid (¬ GoodN ⟨6, s, hi, t, lo, up, n⟩) := by
        show ¬ GoodN _
        have hB := HB.out
        have hE := emptyL
        try simp only [hE] at hB
        intro q
        simp [GoodN] at q hB
        simp_all
      go_wp2_with fail
      go_ret
      exact ⟨_, rfl, by simp [HF.out], HW0.out.2⟩
    · have HF : Hid (GoodN ⟨6, s, hi, t, lo, up, n⟩ ↔ c = 0) := by
        show GoodN _ ↔ _
        have hB := HB.out
        have hG := HG.out
        have hE := emptyL
        try simp only [hE] at hB
        rw [HV.out]
        simp at hB
        simp [GoodN]
        simp_all
      have hfd := regField c k
      go_wp2_with fail
      refine (HC.out _).mono ?_
      rintro r w2 ⟨rfl, hb2⟩
      clear c0 c1 c2 c3 c4 c5 c6
      go_wp2_with fail
      go_ret
      exact ⟨_, rfl, by rw [HF.out]; simp, HW0.out.2.trans (hb2.mono hbw)⟩
  by_cases k7 : kind = 7
  · subst k7
    obtain ⟨B, hB⟩ : ∃ B, B = decide ((7 : Int) = 7 ∧ s.toList = s.toList ∧ hi = false ∧ t.toList = (⟨#[]⟩ : ByteArray).toList ∧ lo = 0 ∧ up = 0 ∧ n = 0) := ⟨_, rfl⟩
    have hq := ndEq_is 7 s hi t lo up n 7 s false ⟨#[]⟩ 0 0 0 B hB
    have HB : Hid (B = true ↔ (7 : Int) = 7 ∧ s.toList = s.toList ∧ hi = false ∧ t.toList = (⟨#[]⟩ : ByteArray).toList ∧ lo = 0 ∧ up = 0 ∧ n = 0) := by rw [hB]; show decide _ = true ↔ _; simp only [decide_eq_true_eq]
    clear hB
    cases B
    · have HF : Hid (¬ GoodN ⟨7, s, hi, t, lo, up, n⟩) := by
        show ¬ GoodN _
        have hB := HB.out
        have hE := emptyL
        try simp only [hE] at hB
        intro q
        simp [GoodN] at q hB
        simp_all
      go_wp2_with fail
      go_ret
      exact ⟨_, rfl, by simp [HF.out], HW0.out.2⟩
    · have HF : Hid (GoodN ⟨7, s, hi, t, lo, up, n⟩ ↔ c = 0) := by
        show GoodN _ ↔ _
        have hB := HB.out
        have hG := HG.out
        have hE := emptyL
        try simp only [hE] at hB
        rw [HV.out]
        simp at hB
        simp [GoodN]
        simp_all
      have hfd := regField c k
      go_wp2_with fail
      refine (HC.out _).mono ?_
      rintro r w2 ⟨rfl, hb2⟩
      clear c0 c1 c2 c3 c4 c5 c6
      go_wp2_with fail
      go_ret
      exact ⟨_, rfl, by rw [HF.out]; simp, HW0.out.2.trans (hb2.mono hbw)⟩
  by_cases k8 : kind = 8
  · subst k8
    obtain ⟨B, hB⟩ : ∃ B, B = decide ((8 : Int) = 8 ∧ s.toList = s.toList ∧ hi = hi ∧ t.toList = t.toList ∧ lo = 0 ∧ up = 0 ∧ n = 0) := ⟨_, rfl⟩
    have hq := ndEq_is 8 s hi t lo up n 8 s hi t 0 0 0 B hB
    have HB : Hid (B = true ↔ (8 : Int) = 8 ∧ s.toList = s.toList ∧ hi = hi ∧ t.toList = t.toList ∧ lo = 0 ∧ up = 0 ∧ n = 0) := by rw [hB]; show decide _ = true ↔ _; simp only [decide_eq_true_eq]
    clear hB
    cases B
    · have HF : Hid (¬ GoodN ⟨8, s, hi, t, lo, up, n⟩) := by
        show ¬ GoodN _
        have hB := HB.out
        have hE := emptyL
        try simp only [hE] at hB
        intro q
        simp [GoodN] at q hB
        simp_all
      go_wp2_with fail
      go_ret
      exact ⟨_, rfl, by simp [HF.out], HW0.out.2⟩
    · go_wp2_with fail
      refine (ends_core ⟨8, s, hi, t, lo, up, n⟩ _).mono ?_
      rintro r w2 ⟨b, rfl, hb, hb2⟩
      have HF : Hid (b = true ↔ GoodN ⟨8, s, hi, t, lo, up, n⟩) := by
        show b = true ↔ GoodN _
        have hB := HB.out
        have hG := HG.out
        have hE := emptyL
        have hL := lessL
        try simp only [hE] at hB
        simp at hB
        rw [hb]
        simp [GoodN]
        cases hi <;> simp_all [less]
      clear hb c0 c1 c2 c3 c4 c5 c6
      go_wp2_with fail
      go_ret
      exact ⟨_, rfl, HF.out, HW0.out.2.trans (hb2.mono hbw)⟩
  by_cases k9 : kind = 9
  · subst k9
    obtain ⟨B, hB⟩ : ∃ B, B = decide ((9 : Int) = 9 ∧ s.toList = s.toList ∧ hi = hi ∧ t.toList = t.toList ∧ lo = 0 ∧ up = 0 ∧ n = 0) := ⟨_, rfl⟩
    have hq := ndEq_is 9 s hi t lo up n 9 s hi t 0 0 0 B hB
    have HB : Hid (B = true ↔ (9 : Int) = 9 ∧ s.toList = s.toList ∧ hi = hi ∧ t.toList = t.toList ∧ lo = 0 ∧ up = 0 ∧ n = 0) := by rw [hB]; show decide _ = true ↔ _; simp only [decide_eq_true_eq]
    clear hB
    cases B
    · have HF : Hid (¬ GoodN ⟨9, s, hi, t, lo, up, n⟩) := by
        show ¬ GoodN _
        have hB := HB.out
        have hE := emptyL
        try simp only [hE] at hB
        intro q
        simp [GoodN] at q hB
        simp_all
      go_wp2_with fail
      go_ret
      exact ⟨_, rfl, by simp [HF.out], HW0.out.2⟩
    · go_wp2_with fail
      refine (ends_core ⟨9, s, hi, t, lo, up, n⟩ _).mono ?_
      rintro r w2 ⟨b, rfl, hb, hb2⟩
      have HF : Hid (b = true ↔ GoodN ⟨9, s, hi, t, lo, up, n⟩) := by
        show b = true ↔ GoodN _
        have hB := HB.out
        have hG := HG.out
        have hE := emptyL
        have hL := lessL
        try simp only [hE] at hB
        simp at hB
        rw [hb]
        simp [GoodN]
        cases hi <;> simp_all [less]
      clear hb c0 c1 c2 c3 c4 c5 c6
      go_wp2_with fail
      go_ret
      exact ⟨_, rfl, HF.out, HW0.out.2.trans (hb2.mono hbw)⟩
  by_cases k10 : kind = 10
  · subst k10
    obtain ⟨B, hB⟩ : ∃ B, B = decide ((10 : Int) = 10 ∧ s.toList = (⟨#[]⟩ : ByteArray).toList ∧ hi = hi ∧ t.toList = (⟨#[]⟩ : ByteArray).toList ∧ lo = lo ∧ up = up ∧ n = 0) := ⟨_, rfl⟩
    have hq := ndEq_is 10 s hi t lo up n 10 ⟨#[]⟩ hi ⟨#[]⟩ lo up 0 B hB
    have HB : Hid (B = true ↔ (10 : Int) = 10 ∧ s.toList = (⟨#[]⟩ : ByteArray).toList ∧ hi = hi ∧ t.toList = (⟨#[]⟩ : ByteArray).toList ∧ lo = lo ∧ up = up ∧ n = 0) := by rw [hB]; show decide _ = true ↔ _; simp only [decide_eq_true_eq]
    clear hB
    cases B
    · have HF : Hid (¬ GoodN ⟨10, s, hi, t, lo, up, n⟩) := by
        show ¬ GoodN _
        have hB := HB.out
        have hE := emptyL
        try simp only [hE] at hB
        intro q
        simp [GoodN] at q hB
        simp_all
      go_wp2_with fail
      go_ret
      exact ⟨_, rfl, by simp [HF.out], HW0.out.2⟩
    · go_wp2_with fail
      refine (ends_core ⟨10, s, hi, t, lo, up, n⟩ _).mono ?_
      rintro r w2 ⟨b, rfl, hb, hb2⟩
      have HF : Hid (b = true ↔ GoodN ⟨10, s, hi, t, lo, up, n⟩) := by
        show b = true ↔ GoodN _
        have hB := HB.out
        have hG := HG.out
        have hE := emptyL
        have hL := lessL
        try simp only [hE] at hB
        simp at hB
        rw [hb]
        simp [GoodN]
        cases hi <;> simp_all [less]
      clear hb c0 c1 c2 c3 c4 c5 c6
      go_wp2_with fail
      go_ret
      exact ⟨_, rfl, HF.out, HW0.out.2.trans (hb2.mono hbw)⟩
  by_cases k11 : kind = 11
  · subst k11
    obtain ⟨B, hB⟩ : ∃ B, B = decide ((11 : Int) = 11 ∧ s.toList = (⟨#[]⟩ : ByteArray).toList ∧ hi = false ∧ t.toList = (⟨#[]⟩ : ByteArray).toList ∧ lo = 0 ∧ up = 0 ∧ n = n) := ⟨_, rfl⟩
    have hq := ndEq_is 11 s hi t lo up n 11 ⟨#[]⟩ false ⟨#[]⟩ 0 0 n B hB
    have HB : Hid (B = true ↔ (11 : Int) = 11 ∧ s.toList = (⟨#[]⟩ : ByteArray).toList ∧ hi = false ∧ t.toList = (⟨#[]⟩ : ByteArray).toList ∧ lo = 0 ∧ up = 0 ∧ n = n) := by rw [hB]; show decide _ = true ↔ _; simp only [decide_eq_true_eq]
    clear hB
    cases B
    · have HF : Hid (¬ GoodN ⟨11, s, hi, t, lo, up, n⟩) := by
        show ¬ GoodN _
        have hB := HB.out
        have hE := emptyL
        try simp only [hE] at hB
        intro q
        simp [GoodN] at q hB
        simp_all
      go_wp2_with fail
      go_ret
      exact ⟨_, rfl, by simp [HF.out], HW0.out.2⟩
    · have HF : Hid (GoodN ⟨11, s, hi, t, lo, up, n⟩ ↔ (1 ≤ n ∧ n ≤ 1000)) := by
        show GoodN _ ↔ _
        have hB := HB.out
        have hG := HG.out
        have hE := emptyL
        try simp only [hE] at hB
        simp at hB
        simp [GoodN]
        simp_all
      by_cases h1 : 1 ≤ n
      · go_wp2_with fail
        go_ret
        exact ⟨_, rfl, by rw [HF.out]; simp; omega, HW0.out.2⟩
      · go_wp2_with fail
        go_ret
        exact ⟨_, rfl, by rw [HF.out]; simp; omega, HW0.out.2⟩
  by_cases k12 : kind = 12
  · subst k12
    obtain ⟨B, hB⟩ : ∃ B, B = decide ((12 : Int) = 12 ∧ s.toList = (⟨#[]⟩ : ByteArray).toList ∧ hi = false ∧ t.toList = (⟨#[]⟩ : ByteArray).toList ∧ lo = 0 ∧ up = 0 ∧ n = n) := ⟨_, rfl⟩
    have hq := ndEq_is 12 s hi t lo up n 12 ⟨#[]⟩ false ⟨#[]⟩ 0 0 n B hB
    have HB : Hid (B = true ↔ (12 : Int) = 12 ∧ s.toList = (⟨#[]⟩ : ByteArray).toList ∧ hi = false ∧ t.toList = (⟨#[]⟩ : ByteArray).toList ∧ lo = 0 ∧ up = 0 ∧ n = n) := by rw [hB]; show decide _ = true ↔ _; simp only [decide_eq_true_eq]
    clear hB
    cases B
    · have HF : Hid (¬ GoodN ⟨12, s, hi, t, lo, up, n⟩) := by
        show ¬ GoodN _
        have hB := HB.out
        have hE := emptyL
        try simp only [hE] at hB
        intro q
        simp [GoodN] at q hB
        simp_all
      go_wp2_with fail
      go_ret
      exact ⟨_, rfl, by simp [HF.out], HW0.out.2⟩
    · have HF : Hid (GoodN ⟨12, s, hi, t, lo, up, n⟩ ↔ (1 ≤ n ∧ n ≤ 1000)) := by
        show GoodN _ ↔ _
        have hB := HB.out
        have hG := HG.out
        have hE := emptyL
        try simp only [hE] at hB
        simp at hB
        simp [GoodN]
        simp_all
      by_cases h1 : 1 ≤ n
      · go_wp2_with fail
        go_ret
        exact ⟨_, rfl, by rw [HF.out]; simp; omega, HW0.out.2⟩
      · go_wp2_with fail
        go_ret
        exact ⟨_, rfl, by rw [HF.out]; simp; omega, HW0.out.2⟩
  by_cases k13 : kind = 13
  · subst k13
    obtain ⟨B, hB⟩ : ∃ B, B = decide ((13 : Int) = 13 ∧ s.toList = (⟨#[]⟩ : ByteArray).toList ∧ hi = false ∧ t.toList = (⟨#[]⟩ : ByteArray).toList ∧ lo = 0 ∧ up = 0 ∧ n = n) := ⟨_, rfl⟩
    have hq := ndEq_is 13 s hi t lo up n 13 ⟨#[]⟩ false ⟨#[]⟩ 0 0 n B hB
    have HB : Hid (B = true ↔ (13 : Int) = 13 ∧ s.toList = (⟨#[]⟩ : ByteArray).toList ∧ hi = false ∧ t.toList = (⟨#[]⟩ : ByteArray).toList ∧ lo = 0 ∧ up = 0 ∧ n = n) := by rw [hB]; show decide _ = true ↔ _; simp only [decide_eq_true_eq]
    clear hB
    cases B
    · have HF : Hid (¬ GoodN ⟨13, s, hi, t, lo, up, n⟩) := by
        show ¬ GoodN _
        have hB := HB.out
        have hE := emptyL
        try simp only [hE] at hB
        intro q
        simp [GoodN] at q hB
        simp_all
      go_wp2_with fail
      go_ret
      exact ⟨_, rfl, by simp [HF.out], HW0.out.2⟩
    · have HF : Hid (GoodN ⟨13, s, hi, t, lo, up, n⟩ ↔ (1 ≤ n ∧ n ≤ 1000)) := by
        show GoodN _ ↔ _
        have hB := HB.out
        have hG := HG.out
        have hE := emptyL
        try simp only [hE] at hB
        simp at hB
        simp [GoodN]
        simp_all
      by_cases h1 : 1 ≤ n
      · go_wp2_with fail
        go_ret
        exact ⟨_, rfl, by rw [HF.out]; simp; omega, HW0.out.2⟩
      · go_wp2_with fail
        go_ret
        exact ⟨_, rfl, by rw [HF.out]; simp; omega, HW0.out.2⟩
  have HF : Hid (¬ GoodN ⟨kind, s, hi, t, lo, up, n⟩) := by
    show ¬ GoodN _
    simp only [GoodN]
    rintro ⟨_, _, _, q⟩
    omega
  go_wp2_with fail
  go_ret
  exact ⟨_, rfl, by simp [HF.out], HW0.out.2⟩
end Go.Proofs.Ytnncedndlhfdkab

/-
  spec.l5Arity, l5From, l5Top, l5Strength, l5Wrapped, l5Tree.
-/
namespace Go.Proofs.Ytnncedndlhfdkab
open Go.ChangeShapes Go.WideShapes Go.ChangeAt Go.RowKit Go.Deep
set_option linter.unusedVariables false
set_option linter.unusedSimpArgs false
set_option maxRecDepth 100000

set_option maxHeartbeats 1000000 in
theorem l5Arity_core (k : Int) (w : World) : Calls Try.prog 104 #[.int .i64 k] w fun e w' => e = .returned (.int .i64 (arity k : Int)) ∧ w' = w := by
  by_cases h14 : k = 14
  · subst h14
    go_enter Try.func104, Try.ntmps104
    go_wp2_with fail
    go_ret
    exact ⟨rfl, rfl⟩
  by_cases h15 : k = 15
  · subst h15
    go_enter Try.func104, Try.ntmps104
    go_wp2_with fail
    go_ret
    exact ⟨rfl, rfl⟩
  by_cases h16 : k = 16
  · subst h16
    go_enter Try.func104, Try.ntmps104
    go_wp2_with fail
    go_ret
    exact ⟨rfl, rfl⟩
  have z14 : (k == 14) = false := by simpa using h14
  have z15 : (k == 15) = false := by simpa using h15
  have z16 : (k == 16) = false := by simpa using h16
  have H : Hid (arity k = 0) := by show arity k = 0; unfold arity; rw [if_neg (by omega), if_neg h16]
  go_enter Try.func104, Try.ntmps104
  go_wp2_with fail
  go_ret
  exact ⟨by rw [H.out]; rfl, rfl⟩
set_option maxHeartbeats 1000000 in
theorem l5Strength_core (k : Int) (w : World) : Calls Try.prog 105 #[.int .i64 k] w fun e w' => e = .returned (.int .i64 (strong k : Int)) ∧ w' = w := by
  by_cases h15 : k = 15
  · subst h15
    go_enter Try.func105, Try.ntmps105
    go_wp2_with fail
    go_ret
    exact ⟨rfl, rfl⟩
  by_cases h14 : k = 14
  · subst h14
    go_enter Try.func105, Try.ntmps105
    go_wp2_with fail
    go_ret
    exact ⟨rfl, rfl⟩
  have z14 : (k == 14) = false := by simpa using h14
  have z15 : (k == 15) = false := by simpa using h15
  have H : Hid (strong k = 3) := by show strong k = 3; unfold strong; rw [if_neg h15, if_neg h14]
  go_enter Try.func105, Try.ntmps105
  go_wp2_with fail
  go_ret
  exact ⟨by rw [H.out]; rfl, rfl⟩
set_option maxHeartbeats 1000000 in
theorem l5Wrapped_core (op : Int) (i : Nat) (kid : Int) (w : World) (hop : ¬ op = 16) : Calls Try.prog 84 #[.int .i64 op, .int .i64 (i : Int), .int .i64 kid] w fun e w' => e = .returned (.bool (level op i kid)) ∧ w' = w := by
  have zop : (op == 16) = false := by simpa using hop
  by_cases hi : i = 0
  · subst hi
    have HL : Hid (level op 0 kid = decide (strong kid < strong op)) := by
      show level op 0 kid = _
      unfold level; simp [hop]
    go_enter Try.func84, Try.ntmps84
    go_wp2_with (go_at_call 105; refine (l5Strength_core _ _).mono ?_; rintro e' w' ⟨rfl, rfl⟩)
    go_ret
    exact ⟨by rw [HL.out]; rfl, rfl⟩
  · have zi : ((i : Int) == 0) = false := by simpa using hi
    have HL : Hid (level op i kid = decide (strong kid ≤ strong op)) := by
      show level op i kid = _
      unfold level; simp [hop, hi]
    go_enter Try.func84, Try.ntmps84
    go_wp2_with (go_at_call 105; refine (l5Strength_core _ _).mono ?_; rintro e' w' ⟨rfl, rfl⟩)
    go_ret
    exact ⟨by rw [HL.out]; rfl, rfl⟩
/-- Nodes in a window of a block. -/
structure Win (w : World) (b off cap : Nat) (xs : List Nd) : Prop where
  at_ : NdsAt w b off xs
  lt : b < w.heap.size
  len : xs.length ≤ cap
  cap : cap ≤ 9223372036854775807
  sm : xs.length ≤ 281474976710656
theorem Win.below {w w' : World} {b off cap : Nat} {xs : List Nd} (h : Win w b off cap xs) (hb : Below w.heap.size w w') : Win w' b off cap xs :=
  ⟨h.at_.below hb h.lt, by have := hb.size; have := h.lt; omega, h.len, h.cap, h.sm⟩
theorem Win.kind {w : World} {b off cap : Nat} {xs : List Nd} (h : Win w b off cap xs) {i : Nat} {e : Nd} (he : xs[i]? = some e) : w.cell? ⟨b, off + i * 7, none⟩ = some (.int .i64 e.kind) := (h.at_ i e he).1
set_option maxHeartbeats 1000000 in
theorem l5Top_core {w : World} {b off cap : Nat} {xs : List Nd} {e : Nd} (h : Win w b off cap (xs ++ [e])) : Calls Try.prog 82 #[.slice (some ⟨b, off, none⟩) (xs.length + 1) cap] w fun r w' => r = .returned (.int .i64 e.kind) ∧ w' = w := by
  have hk := h.kind (i := xs.length) (e := e) (by simp)
  obtain ⟨n, hn⟩ : ∃ n, n = xs.length := ⟨_, rfl⟩
  have h1 := h.len
  have h2 := h.cap
  rw [List.length_append, List.length_singleton] at h1
  rw [← hn] at hk h1 ⊢
  clear h hn
  go_enter Try.func82, Try.ntmps82
  go_wp2_with fail
  go_ret
  exact ⟨rfl, rfl⟩
/-- What l5From answers. -/
def FromPost (xs : List Nd) (w : World) (r : Ending) (w' : World) : Prop := w' = w ∧ ((∃ i : Nat, r = .returned (.int .i64 (i : Int)) ∧ i ≤ xs.length ∧ IsT 1 (xs.drop i)) ∨ (r = .returned (.int .i64 (-1)) ∧ ∀ j, j ≤ xs.length → ¬ IsT 1 (xs.drop j)))
set_option maxHeartbeats 2000000 in
theorem l5From_core {w : World} {b off cap : Nat} {xs : List Nd} (h : Win w b off cap xs) : Calls Try.prog 81 #[.slice (some ⟨b, off, none⟩) xs.length cap] w (FromPost xs w) := by
  have HW : Hid (Win w b off cap xs) := h
  have h1 := h.len
  have h2 := h.cap
  have h3 := h.sm
  obtain ⟨n, hn⟩ : ∃ n, n = xs.length := ⟨_, rfl⟩
  have HN : Hid (n = xs.length) := hn
  rw [← hn] at h1 h3 ⊢
  clear h hn
  go_enter Try.func81, Try.ntmps81
  go_wp2_with fail
  go_loopw [3, 4] (fun nv iv wr => ∃ (i m : Nat), iv = .int .i64 (i : Int) ∧ nv = .int .i64 (m : Int) ∧ i ≤ n ∧ m ≤ 1 + 3 * (n - i) ∧ Sc m (xs.drop i) ∧ wr = w) (fun _ iv _ => (intOf iv).toNat)
  case atStart => exact ⟨n, 1, rfl, rfl, Nat.le_refl _, by omega, by rw [HN.out, List.drop_length]; exact .nil, rfl⟩
  case round =>
    obtain ⟨i, m, rfl, rfl, hi, hm, hS, rfl⟩ := hrel
    have HS : Hid (Sc m (xs.drop i)) := hS
    clear hS
    by_cases hm0 : m = 0
    · subst hm0
      go_wp2_with fail
      go_ret
      refine ⟨rfl, .inl ⟨i, rfl, by have := HN.out; omega, ?_⟩⟩
      have := HS.out.tree (pre := [])
      exact this.1 .nil
    · obtain ⟨m', rfl⟩ : ∃ m', m = m' + 1 := ⟨m - 1, by omega⟩
      have zm : (0 : Int) < (m' : Int) + 1 := by omega
      by_cases hi0 : i = 0
      · subst hi0
        go_wp2_with fail
        go_ret
        exact ⟨rfl, .inr ⟨rfl, fun j hj => sc_none HS.out j (Nat.zero_le _) hj⟩⟩
      · obtain ⟨i', rfl⟩ : ∃ i', i = i' + 1 := ⟨i - 1, by omega⟩
        obtain ⟨e, he⟩ : ∃ e, xs[i']? = some e := ⟨_, List.getElem?_eq_getElem (by have := HN.out; omega)⟩
        have hk := HW.out.kind he
        have hlt : i' < xs.length := by have := HN.out; omega
        have HS2 : Hid (Sc (m' + arity e.kind) (xs.drop i')) := by
          show Sc _ _
          rw [List.drop_eq_getElem_cons hlt, show xs[i'] = e from Option.some.inj ((List.getElem?_eq_getElem hlt).symm.trans he)]
          exact .cons e HS.out
        have ha := arity_le e.kind
        have zi : ¬ (i' : Int) < 0 := by omega
        clear he hlt
        go_wp2_with fail
        refine (l5Arity_core e.kind _).mono ?_
        rintro r w2 ⟨rfl, hw2⟩
        rw [hw2]
        clear hw2
        go_wp2_with fail
        go_roundw
        case rel => exact ⟨i', m' + arity e.kind, by go_num, by go_num, by omega, by omega, HS2.out, by first | rfl | trivial⟩
        case measure => simp [intOf] <;> omega
set_option maxHeartbeats 2000000 in
theorem l5Tree_core {w : World} {b off cap : Nat} {xs : List Nd} (h : Win w b off cap xs) : Calls Try.prog 63 #[.slice (some ⟨b, off, none⟩) xs.length cap] w fun r w' => w' = w ∧ ((r = .returned (.bool true) ∧ IsT 1 xs) ∨ (r = .returned (.bool false) ∧ ¬ IsT 1 xs)) := by
  have HW : Hid (Win w b off cap xs) := h
  have h1 := h.len
  have h2 := h.cap
  have h3 := h.sm
  obtain ⟨n, hn⟩ : ∃ n, n = xs.length := ⟨_, rfl⟩
  have HN : Hid (n = xs.length) := hn
  have HF : Hid (Calls Try.prog 81 #[.slice (some ⟨b, off, none⟩) n cap] w (FromPost xs w)) := by
    rw [hn]; exact l5From_core h
  rw [← hn] at h1 h3 ⊢
  clear h hn
  by_cases hn0 : n = 0
  · subst hn0
    have HE : Hid (¬ IsT 1 xs) := fun q => by
      have := q.len
      have := HN.out
      omega
    go_enter Try.func63, Try.ntmps63
    go_wp2_with fail
    go_ret
    exact ⟨rfl, .inr ⟨rfl, HE.out⟩⟩
  · have zn : (0 : Int) < (n : Int) := by omega
    go_enter Try.func63, Try.ntmps63
    go_wp2_with fail
    refine HF.out.mono ?_
    rintro r w2 ⟨hw2, (⟨i, rfl, hi, hT⟩ | ⟨rfl, hT⟩)⟩
    · rw [hw2]
      clear hw2
      have HT : Hid (i ≤ xs.length ∧ IsT 1 (xs.drop i)) := ⟨hi, hT⟩
      clear hi hT
      by_cases hi0 : i = 0
      · subst hi0
        go_wp2_with fail
        go_ret
        exact ⟨rfl, .inl ⟨rfl, by simpa using HT.out.2⟩⟩
      · have zi : ((i : Int) == 0) = false := by simpa using hi0
        go_wp2_with fail
        go_ret
        refine ⟨rfl, .inr ⟨rfl, fun q => hi0 ?_⟩⟩
        exact (tree_one (xs := xs) (i := 0) (j := i) (by simpa using q) HT.out.2 (Nat.zero_le _) HT.out.1).symm
    · rw [hw2]
      clear hw2
      have HT : Hid (¬ IsT 1 xs) := fun q => hT 0 (Nat.zero_le _) (by simpa using q)
      clear hT
      go_wp2_with fail
      go_ret
      exact ⟨rfl, .inr ⟨rfl, HT.out⟩⟩
end Go.Proofs.Ytnncedndlhfdkab

/-
  spec.l5Kids, l5Nest.
-/
namespace Go.Proofs.Ytnncedndlhfdkab
open Go.ChangeShapes Go.WideShapes Go.ChangeAt Go.RowKit Go.Deep
set_option linter.unusedVariables false
set_option linter.unusedSimpArgs false
set_option maxRecDepth 100000

/-- A list of lists of nodes of the call's own. -/
def OwnV (w : World) (base g cp : Nat) (us : List Value) : Prop := w.ownsRow base 54 1 (.slice (some ⟨g, 0, none⟩) us.length cp) us.length us
theorem OwnV.lt {w : World} {base g cp : Nat} {us : List Value} (h : OwnV w base g cp us) : base ≤ g ∧ g < w.heap.size := World.ownsRow.lt h g rfl
theorem OwnV.below {w w' : World} {base g cp : Nat} {us : List Value} (h : OwnV w base g cp us) (hb : Below w.heap.size w w') : OwnV w' base g cp us := own_chg h (Chg.of_below hb) (S := fun _ => False) (fun k q z => z)
theorem OwnV.cell {w : World} {base g cp : Nat} {us : List Value} (h : OwnV w base g cp us) {j : Nat} {v : Value} (hv : us[j]? = some v) : w.cell? ⟨g, j, none⟩ = some v := by
  have hj := (List.getElem?_eq_some_iff.1 hv).1
  rw [World.ownsRow.cellAt h j (by omega), hv]
theorem OwnV.caps {w : World} {base g cp : Nat} {us : List Value} (h : OwnV w base g cp us) : us.length ≤ cp ∧ cp ≤ maxLen := by
  rcases h.2 with ⟨h0, _⟩ | ⟨g', cap', cur, hv, _, _, hn, hcap, _, _⟩
  · cases h0
  · simp only [Value.slice.injEq, Option.some.injEq, Addr.mk.injEq, and_true, true_and] at hv
    obtain ⟨rfl, rfl⟩ := hv
    exact ⟨hn, hcap⟩
theorem ownV_new (w : World) {base : Nat} (hb : base ≤ w.heap.size) : OwnV (w.alloc (Obj.cells #[] 54)) base w.heap.size 0 [] :=
  World.ownsRow_made w #[] 0 hb (Nat.zero_le _) (by simp)
theorem ownV_one (w : World) {base : Nat} (hb : base ≤ w.heap.size) (v : Value) : OwnV (w.alloc (Obj.cells #[v] 54)) base w.heap.size 1 [v] :=
  World.ownsRow_lit w #[v] 1 hb (by decide) rfl
theorem Try.infoNds : (Try.prog.info? 54).map (fun i => (i.zero, i.size, i.bytes)) = some (some (.slice none 0 0), 1, 24) := by kernel_rfl
theorem wpList_append_nds {ops : Array Oper} {rest : List Oper} {oo : Oper} {a : Act} {Q : Exit → Act → World → Prop} (w : World) (hgd : oo.guard = none) (s x : Operand)
    (ho : oo.op = .call { callee := .builtin .append, args := #[s, x], argTypes := #[125, 125] })
    (base gq cp n b m cx : Nat) (us vs : List Value) (hs : a.eval s = .slice (some ⟨gq, 0, none⟩) n cp) (hx : a.eval x = .slice (some ⟨b, 0, none⟩) m cx) (hn : n = us.length) (hm : m = vs.length) (hO : OwnV w base gq cp us)
    (hc : ∀ (j : Nat) v, vs[j]? = some v → w.cell? ⟨b, j, none⟩ = some v) (hy : ∀ v ∈ vs, v.oneCell' = true) (hlen : us.length + vs.length ≤ 1000) (hbase : base ≤ w.heap.size)
    (h : ∀ g' cp' w', OwnV w' base g' cp' (us ++ vs) → w.grownBy w' (some gq) → (g' = gq ∨ g' = w.heap.size) → wpList Try.prog ops Q rest (a.put oo.dst (.slice (some ⟨g', 0, none⟩) (n + m) cp')) w') : wpList Try.prog ops Q (oo :: rest) a w := by
  subst hn hm
  obtain ⟨i, hi, hz0, hz1, hz2⟩ := info_parts Try.infoNds
  refine wpList_append_own_at w hgd s x 125 ho base 54 i _ 1 24 Try.underlying125 hi hz0 hz1 hz2 rfl (by decide) (.slice (some ⟨gq, 0, none⟩) us.length cp) us.length us hs hO ⟨b, 0, none⟩ vs.length cx vs hx (by simp) ?_ hy ?_ ?_ hbase ?_
  · intro j u hu
    rw [Addr.add_mid, Nat.zero_add]; exact hc j u hu
  · unfold maxLen; omega
  · omega
  · intro v' w' hO' hgr hnil hat
    rcases hO'.2 with ⟨h0, _⟩ | ⟨g', cap', cur, hv, _, _, hn, hcap, _, _⟩
    · have := (hnil.1 h0).1
      cases this
    · subst hv
      refine h g' cap' w' ?_ hgr ?_
      · unfold OwnV
        rw [List.length_append]
        exact hO'
      · simp [Value.ownBlock] at hat
        exact hat
/-- The windows of operands, one behind another. -/
def kidVs (b : Nat) : Nat → Nat → List (List Nd) → List Value
  | _, _, [] => []
  | o, cap, k :: ks => .slice (some ⟨b, o, none⟩) k.length cap :: kidVs b (o + k.length * 7) (cap - k.length) ks
theorem kidVs_len (b : Nat) : ∀ (o cap : Nat) (ks : List (List Nd)), (kidVs b o cap ks).length = ks.length
  | _, _, [] => rfl
  | o, cap, k :: ks => by simp [kidVs, kidVs_len]
theorem kidVs_one (b : Nat) : ∀ (o cap : Nat) (ks : List (List Nd)), ∀ v ∈ kidVs b o cap ks, v.oneCell' = true
  | _, _, [], v, h => by cases h
  | o, cap, k :: ks, v, h => by
    rcases List.mem_cons.1 h with rfl | h
    · rfl
    · exact kidVs_one b _ _ ks v h
theorem NdsAt.part {w : World} {b o : Nat} {xs ys : List Nd} (h : NdsAt w b o (xs ++ ys)) : NdsAt w b o xs ∧ NdsAt w b (o + xs.length * 7) ys := by
  refine ⟨fun i e he => h i e (by rw [List.getElem?_append_left (List.getElem?_eq_some_iff.1 he).1]; exact he), fun i e he => ?_⟩
  have := h (xs.length + i) e (by rw [List.getElem?_append_right (by omega), Nat.add_sub_cancel_left]; exact he)
  rw [Nat.add_mul, ← Nat.add_assoc] at this
  exact this
/-- Each window holds its operand. -/
theorem kidVs_nth {w : World} {b : Nat} : ∀ {ks : List (List Nd)} {o cap : Nat} {rest : List Nd}, Win w b o cap (ks.flatten ++ rest) → ∀ {j : Nat} {k : List Nd}, ks[j]? = some k → ∃ o' cap', (kidVs b o cap ks)[j]? = some (.slice (some ⟨b, o', none⟩) k.length cap') ∧ Win w b o' cap' k
  | [], _, _, _, _, j, k, h => by simp at h
  | a :: ks, o, cap, rest, hW, j, k, h => by
    simp only [List.flatten_cons, List.append_assoc] at hW
    have hp := hW.at_.part
    have hl := hW.len
    have hc := hW.cap
    have hs := hW.sm
    simp only [List.length_append] at hl hs
    cases j with
    | zero =>
      simp at h
      subst h
      exact ⟨o, cap, rfl, hp.1, hW.lt, by omega, hc, by omega⟩
    | succ j =>
      simp at h
      exact kidVs_nth (ks := ks) (o := o + a.length * 7) (cap := cap - a.length) (rest := rest) ⟨hp.2, hW.lt, by simp only [List.length_append]; omega, by omega, by simp only [List.length_append]; omega⟩ h
structure KiJ (w : World) (b o cap : Nat) (pre suf : List (List Nd)) (g cp : Nat) (wr : World) : Prop where
  own : OwnV wr w.heap.size g cp (kidVs b (o + pre.flatten.length * 7) (cap - pre.flatten.length) suf)
  below : Below w.heap.size w wr
set_option maxHeartbeats 4000000 in
theorem l5Kids_core {w : World} {b o cap : Nat} {ks : List (List Nd)} {e : Nd} (h : Win w b o cap (ks.flatten ++ [e])) (hk : ks.length = arity e.kind) (hT : ∀ k ∈ ks, IsT 1 k) :
    Calls Try.prog 83 #[.slice (some ⟨b, o, none⟩) (ks.flatten.length + 1) cap] w fun r w' => ∃ g cp, r = .returned (.slice (some ⟨g, 0, none⟩) ks.length cp) ∧ OwnV w' w.heap.size g cp (kidVs b o cap ks) ∧ Below w.heap.size w w' := by
  have HW : Hid (Win w b o cap (ks.flatten ++ [e]) ∧ ∀ k ∈ ks, IsT 1 k) := ⟨h, hT⟩
  have hkind := h.kind (i := ks.flatten.length) (e := e) (by simp)
  have h1 := h.len
  have h2 := h.cap
  have h3 := h.sm
  obtain ⟨n, hn⟩ : ∃ n, n = ks.flatten.length := ⟨_, rfl⟩
  have HN : Hid (n = ks.flatten.length) := hn
  rw [List.length_append, List.length_singleton] at h1 h3
  rw [← hn] at hkind h1 h3 ⊢
  have ha := arity_le e.kind
  have HA : Hid (ks.length = arity e.kind) := hk
  obtain ⟨W0, hW0⟩ : ∃ W0 : World, W0 = w.alloc (Obj.cells #[] 54) := ⟨_, rfl⟩
  have HW0 : Hid (KiJ w b o cap ks [] w.heap.size 0 W0) := by
    rw [hW0]; exact ⟨ownV_new w (Nat.le_refl _), (Below.refl _ _).alloc (Nat.le_refl _) _⟩
  have hkind0 : W0.cell? ⟨b, o + n * 7, none⟩ = some (.int .i64 e.kind) := by
    rw [(Chg.of_below HW0.out.below (S := fun _ => False)).cell (p := ⟨b, o + n * 7, none⟩) h.lt (fun q => q)]; exact hkind
  obtain ⟨a, hak⟩ : ∃ a, a = arity e.kind := ⟨_, rfl⟩
  have HAr : Hid (Calls Try.prog 104 #[.int .i64 e.kind] W0 fun r w' => r = .returned (.int .i64 (a : Int)) ∧ w' = W0) := by
    rw [hak]; exact l5Arity_core e.kind W0
  have HAk : Hid (ks.length = a) := by rw [hak]; exact hk
  rw [hk, ← hak]
  rw [← hak] at ha
  clear h hn hT hk hkind HA hak
  go_enter Try.func83, Try.ntmps83
  go_upto_region 3 with fail
  rw [← hW0]
  clear hW0
  go_wp2_with fail
  refine HAr.out.mono ?_
  rintro r w1 ⟨rfl, hw1⟩
  rw [hw1]
  clear hw1 hkind0 HAr
  go_wp2_with fail
  go_loopw [3, 4, 5] (fun rv ov kv wr => ∃ (c m g cp : Nat) (pre suf : List (List Nd)), ks = pre ++ suf ∧ pre.length = c ∧ suf.length + c = a ∧ m = pre.flatten.length ∧ m ≤ n ∧ kv = .int .i64 (c : Int) ∧ rv = .slice (some ⟨b, o, none⟩) m cap ∧ ov = .slice (some ⟨g, 0, none⟩) suf.length cp ∧ KiJ w b o cap pre suf g cp wr) (fun _ _ kv _ => (intOf kv).toNat)
  case atStart => exact ⟨a, n, _, 0, ks, [], by simp, HAk.out, by simp, HN.out, Nat.le_refl _, rfl, rfl, rfl, HW0.out⟩
  case round =>
    obtain ⟨c, m, g, cp, pre, suf, hks, hpl, hsl, hm, hmn, rfl, rfl, rfl, hJ⟩ := hrel
    have HJ : Hid (KiJ w b o cap pre suf g cp wr ∧ ks = pre ++ suf ∧ m = pre.flatten.length ∧ pre.length = c) := ⟨hJ, hks, hm, hpl⟩
    have hgl := hJ.own.lt
    have hsz := hJ.below.size
    clear hJ hks hm hpl HW0
    obtain ⟨q, hq⟩ : ∃ q, q = suf.length := ⟨_, rfl⟩
    have HQ : Hid (q = suf.length) := hq
    rw [← hq] at hsl ⊢
    clear hq
    by_cases hc0 : c = 0
    · subst hc0
      have HF : Hid (pre = [] ∧ q = a) := ⟨List.length_eq_zero_iff.1 HJ.out.2.2.2, by omega⟩
      go_wp2_with fail
      go_ret
      have hp := HF.out.1
      have hj := HJ.out.1.own
      have hs := HJ.out.2.1
      rw [hp] at hj hs
      simp at hj hs
      refine ⟨g, cp, by rw [← HF.out.2]; rfl, by rw [hs]; exact hj, HJ.out.1.below⟩
    · obtain ⟨c', rfl⟩ : ∃ c', c = c' + 1 := ⟨c - 1, by omega⟩
      have zc : (0 : Int) < (c' : Int) + 1 := by omega
      obtain ⟨pre', k, hpre⟩ : ∃ pre' k, pre = pre' ++ [k] := by
        rcases List.eq_nil_or_concat pre with h | ⟨p', k, h⟩
        · have := HJ.out.2.2.2; rw [h] at this; simp at this
        · exact ⟨p', k, by rw [h, List.concat_eq_append]⟩
      obtain ⟨m', hm'⟩ : ∃ m', m' = pre'.flatten.length := ⟨_, rfl⟩
      have hmm : m = m' + k.length := by rw [HJ.out.2.2.1, hpre, hm']; simp
      have hkT : IsT 1 k := HW.out.2 k (by rw [HJ.out.2.1, hpre]; simp)
      have hk1 := hkT.len
      have hwin : Win wr b o cap pre.flatten := by
        have hw := HW.out.1
        rw [HJ.out.2.1] at hw
        simp only [List.flatten_append, List.append_assoc] at hw
        have h8 := hw.len
        have h9 := hw.sm
        simp only [List.length_append] at h8 h9
        exact Win.below ⟨hw.at_.part.1, hw.lt, by omega, hw.cap, by omega⟩ HJ.out.1.below
      have HC : Hid (Calls Try.prog 81 #[.slice (some ⟨b, o, none⟩) m cap] wr fun r w' => r = .returned (.int .i64 (m' : Int)) ∧ w' = wr) := by
        have hf := l5From_core hwin
        rw [← HJ.out.2.2.1] at hf
        refine hf.mono ?_
        have hdrop : pre.flatten.drop m' = k := by rw [hpre, hm']; simp
        rintro r w2 ⟨hw2, (⟨i, rfl, hi, hTi⟩ | ⟨rfl, hTi⟩)⟩
        · refine ⟨?_, hw2⟩
          have hml : m' ≤ pre.flatten.length := by rw [hpre, hm']; simp
          have : i = m' := by
            rcases Nat.le_total i m' with hle | hle
            · exact tree_one hTi (by rw [hdrop]; exact hkT) hle hml
            · exact (tree_one (by rw [hdrop]; exact hkT) hTi hle hi).symm
          rw [this]
        · exact absurd (by rw [hdrop]; exact hkT) (hTi m' (by rw [hpre, hm']; simp))
      have HP : Hid (pre = pre' ++ [k] ∧ m' = pre'.flatten.length ∧ IsT 1 k ∧ m = m' + k.length) := ⟨hpre, hm', hkT, hmm⟩
      have hmle : m' ≤ m := by omega
      have z1 : (m' : Int) ≤ (m : Int) := by omega
      have z2 : (m : Int) ≤ (cap : Int) := by omega
      have z3 : (m' : Int) ≤ (cap : Int) := by omega
      clear hwin hkT hpre hm' hmm hk1
      go_wp2_with fail
      refine HC.out.mono ?_
      rintro r w2 ⟨rfl, hw2⟩
      rw [hw2]
      clear hw2 HC
      obtain ⟨W5, hW5⟩ : ∃ W5 : World, W5 = wr.alloc (Obj.cells #[.slice (some ⟨b, o + m' * 7, none⟩) (m - m') (cap - m')] 54) := ⟨_, rfl⟩
      have hb5 : Below wr.heap.size wr W5 := by rw [hW5]; exact (Below.refl _ _).alloc (Nat.le_refl _) _
      have hz5 : W5.heap.size = wr.heap.size + 1 := by rw [hW5]; simp
      have HW5 : Hid (OwnV W5 w.heap.size wr.heap.size 1 [.slice (some ⟨b, o + m' * 7, none⟩) (m - m') (cap - m')] ∧ OwnV W5 w.heap.size g cp (kidVs b (o + pre.flatten.length * 7) (cap - pre.flatten.length) suf) ∧ Below w.heap.size w W5) := by
        refine ⟨?_, HJ.out.1.own.below hb5, HJ.out.1.below.trans (hb5.mono hsz)⟩
        rw [hW5]; exact ownV_one wr hsz _
      go_wp2_with (at_builtin; rw [← hW5]; refine wpList_append_nds _ rfl _ _ rfl w.heap.size wr.heap.size 1 1 g q cp [.slice (some ⟨b, o + m' * 7, none⟩) (m - m') (cap - m')] (kidVs b (o + pre.flatten.length * 7) (cap - pre.flatten.length) suf) rfl rfl rfl ?hm ?hO ?hc ?hy ?hl ?hb ?_)
      case hm => rw [kidVs_len]; exact HQ.out
      case hO => exact HW5.out.1
      case hc => exact fun j v hv => HW5.out.2.1.cell hv
      case hy => exact kidVs_one _ _ _ _
      case hl => rw [kidVs_len, ← HQ.out]; simp; omega
      case hb => omega
      intro g' cp' w' hO' hgr hat
      rw [← hW5] at hgr
      have HJ6 : Hid (KiJ w b o cap pre' (k :: suf) g' cp' w' ∧ ks = pre' ++ (k :: suf) ∧ pre'.length = c' ∧ (k :: suf).length = q + 1) := by
        have hP := HP.out
        refine ⟨⟨?_, HW5.out.2.2.grown hgr (by omega) (fun j hj => by cases hj; omega)⟩, by rw [HJ.out.2.1, hP.1]; simp, ?_, by rw [HQ.out]; rfl⟩
        · have e1 : (List.map List.length pre).sum = m' + k.length := by rw [← List.length_flatten, ← HJ.out.2.2.1]; exact hP.2.2.2
          rw [e1] at hO'
          have e2 : m - m' = k.length := by omega
          rw [e2] at hO'
          have e3 : o + (m' + k.length) * 7 = o + m' * 7 + k.length * 7 := by omega
          have e4 : cap - (m' + k.length) = cap - m' - k.length := by omega
          rw [e3, e4] at hO'
          rw [← hP.2.1]
          exact hO'
        · have := HJ.out.2.2.2
          rw [hP.1] at this
          simpa using this
      clear hO' hgr hat hW5 hb5
      go_wp2_with fail
      go_roundw
      case rel => exact ⟨c', m', g', cp', pre', k :: suf, HJ6.out.2.1, HJ6.out.2.2.1, by have := HJ6.out.2.2.2; omega, HP.out.2.1, by omega, by go_num, rfl, by rw [HJ6.out.2.2.2]; go_num, HJ6.out.1⟩
      case measure => simp [intOf] <;> omega
end Go.Proofs.Ytnncedndlhfdkab

/-
  spec.l5Nest.
-/
namespace Go.Proofs.Ytnncedndlhfdkab
open Go.ChangeShapes Go.WideShapes Go.ChangeAt Go.RowKit Go.Deep
set_option linter.unusedVariables false
set_option linter.unusedSimpArgs false
set_option maxRecDepth 100000

variable (G : Nd → Bool)
def NestC (n : Nat) : Prop := ∀ (w : World) (b o cap : Nat) (xs : List Nd) (s : Shape), xs.length ≤ n → Win w b o cap xs → ShT G [s] xs → Calls Try.prog 64 #[.slice (some ⟨b, o, none⟩) xs.length cap] w fun r w' => r = .returned (.int .i64 (s.nest : Int)) ∧ Below w.heap.size w w'
theorem nestFrom_step (op : Int) {os : List Shape} {j a : Nat} {o : Shape} (h : os[j]? = some o) : nestFrom op j a (os.drop j) = nestFrom op (j + 1) (max a (o.nest + if level op j o.kind then 1 else 0)) (os.drop (j + 1)) := by
  have hj := (List.getElem?_eq_some_iff.1 h).1
  rw [List.drop_eq_getElem_cons hj, show os[j] = o from Option.some.inj ((List.getElem?_eq_getElem hj).symm.trans h)]
  rfl
structure NeJ (w : World) (b o cap : Nat) (ks : List (List Nd)) (g cp : Nat) (wr : World) : Prop where
  own : OwnV wr w.heap.size g cp (kidVs b o cap ks)
  below : Below w.heap.size w wr
theorem NeJ.move {w : World} {b o cap : Nat} {ks : List (List Nd)} {g cp : Nat} {wr w' : World} (h : NeJ w b o cap ks g cp wr) (hb : Below wr.heap.size wr w') : NeJ w b o cap ks g cp w' := ⟨h.own.below hb, h.below.trans (hb.mono h.below.size)⟩
set_option maxHeartbeats 4000000 in
theorem nest_of {n : Nat} (H : NestC G n) : NestC G (n + 1) := by
  intro w b o cap xs s hn hW hS
  obtain ⟨ys, e, os, rfl, hal, hS2, hs⟩ := ShT.inv G hS
  obtain ⟨ks, rfl, hK⟩ := ShT.kids G hS2
  have hlen := Kids.length G hK
  have HF : Hid (Win w b o cap (ks.flatten ++ [e]) ∧ Kids G os ks ∧ s = shapeM G e os ∧ os.length = ks.length ∧ ks.flatten.length ≤ n ∧ NestC G n) := ⟨hW, hK, hs, hlen, by simp at hn; rw [List.length_flatten]; omega, H⟩
  have hk3 := arity_le e.kind
  obtain ⟨a3, ha3⟩ : ∃ a3, a3 = ks.length := ⟨_, rfl⟩
  have HA : Hid (a3 = ks.length) := ha3
  have hle : a3 ≤ 3 := by omega
  have hcap := hW.cap
  have hsm : ks.flatten.length + 1 ≤ 281474976710656 := by have := hW.sm; rw [List.length_append, List.length_singleton] at this; exact this
  have hbig : ks.flatten.length + 1 ≤ cap := by have := hW.len; rw [List.length_append, List.length_singleton] at this; exact this
  have HT : Hid (Calls Try.prog 82 #[.slice (some ⟨b, o, none⟩) (ks.flatten.length + 1) cap] w fun r w' => r = .returned (.int .i64 e.kind) ∧ w' = w) := l5Top_core hW
  have HKs : Hid (Calls Try.prog 83 #[.slice (some ⟨b, o, none⟩) (ks.flatten.length + 1) cap] w fun r w' => ∃ g cp, r = .returned (.slice (some ⟨g, 0, none⟩) a3 cp) ∧ OwnV w' w.heap.size g cp (kidVs b o cap ks) ∧ Below w.heap.size w w') := by
    rw [ha3]; exact l5Kids_core hW (by omega) (Kids.tree G hK)
  have HB : Hid (∀ o ∈ os, o.nest ≤ 281474976710656) := fun o' ho => by
    obtain ⟨k, hk, h3⟩ := kid_len G hK ho
    have h4 := len_flat hk
    have h5 := nest_len G _ (Nat.le_refl _) h3
    omega
  have HSn : Hid (nestFrom e.kind 0 0 os = s.nest) := by show _ = _; rw [hs]; rfl
  rw [List.length_append, List.length_singleton]
  obtain ⟨m, hm⟩ : ∃ m, m = ks.flatten.length := ⟨_, rfl⟩
  rw [← hm] at HT HKs hbig hsm ⊢
  obtain ⟨sn, hsn⟩ : ∃ sn, sn = s.nest := ⟨_, rfl⟩
  have HSn2 : Hid (nestFrom e.kind 0 0 os = sn) := by rw [hsn]; exact HSn
  rw [← hsn]
  clear hW hS hS2 hK hs hal hlen H ha3 hm hn hsn HSn hk3
  go_enter Try.func64, Try.ntmps64
  go_wp2_with fail
  refine HT.out.mono ?_
  rintro r w1 ⟨rfl, hw1⟩
  rw [hw1]
  clear hw1 HT
  go_wp2_with fail
  refine HKs.out.mono ?_
  rintro r w1 ⟨g, cp, rfl, hO, hb1⟩
  have HW1 : Hid (NeJ w b o cap ks g cp w1) := ⟨hO, hb1⟩
  clear hO hb1 HKs
  go_wp2_with fail
  go_loopw [5, 6] (fun mv iv wr => ∃ (j a : Nat), iv = .int .i64 (j : Int) ∧ mv = .int .i64 (a : Int) ∧ j ≤ a3 ∧ a ≤ 999999999999999 ∧ nestFrom e.kind j a (os.drop j) = sn ∧ NeJ w b o cap ks g cp wr) (fun _ iv _ => a3 - (intOf iv).toNat)
  case atStart => exact ⟨0, 0, rfl, rfl, Nat.zero_le _, by omega, HSn2.out, HW1.out⟩
  case round =>
    obtain ⟨j, a, rfl, rfl, hj, ha, hN, hJ⟩ := hrel
    have HJ : Hid (nestFrom e.kind j a (os.drop j) = sn ∧ NeJ w b o cap ks g cp wr) := ⟨hN, hJ⟩
    have hgl := hJ.own.lt
    have hsz := hJ.below.size
    clear hN hJ HW1 HSn2
    by_cases hlt : j < a3
    · have zj : (j : Int) < (a3 : Int) := by omega
      obtain ⟨k, hk⟩ : ∃ k, ks[j]? = some k := ⟨_, List.getElem?_eq_getElem (by have := HA.out; omega)⟩
      obtain ⟨os1, ho1, hS1⟩ := Kids.nth G HF.out.2.1 hk
      obtain ⟨o', cap', hv, hWk⟩ := kidVs_nth HF.out.1 hk
      have hc := HJ.out.2.own.cell hv
      have hkn : k.length ≤ n := by have := len_flat (List.mem_of_getElem? hk); have := HF.out.2.2.2.2.1; omega
      have hWr := hWk.below HJ.out.2.below
      have HCall : Hid (Calls Try.prog 64 #[.slice (some ⟨b, o', none⟩) k.length cap'] wr fun r w' => r = .returned (.int .i64 (os1.nest : Int)) ∧ Below wr.heap.size wr w') := HF.out.2.2.2.2.2 wr b o' cap' k os1 hkn hWr hS1
      obtain ⟨ky, ke, ko, rfl, _, _, hko⟩ := ShT.inv G hS1
      have hkk : os1.kind = ke.kind := by rw [hko]; rfl
      have HTop : Hid (∀ w2, Below wr.heap.size wr w2 → Calls Try.prog 82 #[.slice (some ⟨b, o', none⟩) (ky ++ [ke]).length cap'] w2 fun r w' => r = .returned (.int .i64 os1.kind) ∧ w' = w2) := fun w2 hb2 => by
        have := l5Top_core (hWr.below hb2)
        rw [List.length_append, List.length_singleton, hkk]
        exact this
      have hnb := HB.out os1 (List.mem_of_getElem? ho1)
      have HStep : Hid (nestFrom e.kind (j + 1) (max a (os1.nest + if level e.kind j os1.kind then 1 else 0)) (os.drop (j + 1)) = sn) := by
        show _ = _
        rw [← nestFrom_step e.kind ho1]; exact HJ.out.1
      obtain ⟨kl, hkl⟩ : ∃ kl, kl = (ky ++ [ke]).length := ⟨_, rfl⟩
      rw [← hkl] at hc HCall HTop
      clear hk ho1 hS1 hv hWk hkn hWr hko hkk hkl
      go_wp2_with fail
      refine HCall.out.mono ?_
      rintro r w2 ⟨rfl, hb2⟩
      have HJ2 : Hid (NeJ w b o cap ks g cp w2) := HJ.out.2.move hb2
      have hc2 : w2.cell? ⟨g, j, none⟩ = some (.slice (some ⟨b, o', none⟩) kl cap') := by
        rw [(Chg.of_below hb2 (S := fun _ => False)).cell (p := ⟨g, j, none⟩) hgl.2 (fun q => q)]; exact hc
      have HTop2 : Hid (Calls Try.prog 82 #[.slice (some ⟨b, o', none⟩) kl cap'] w2 fun r w' => r = .returned (.int .i64 os1.kind) ∧ w' = w2) := HTop.out w2 hb2
      clear hc hb2 HTop HCall
      have fin : ∀ (x : Nat), x = os1.nest + (if level e.kind j os1.kind then 1 else 0) → x ≤ 281474976710657 → Hid (∀ y : Nat, y = max a x → nestFrom e.kind (j + 1) y (os.drop (j + 1)) = sn) := fun x hx _ y hy => by
        rw [hy, hx]; exact HStep.out
      by_cases h16 : e.kind = 16
      · have hlv : level e.kind j os1.kind = true := by unfold level; rw [h16]; rfl
        rw [hlv] at fin
        have HFin := fin (os1.nest + 1) rfl (by omega)
        have z16 : (e.kind == 16) = true := by simpa using h16
        clear fin hlv h16
        by_cases hgt : a < os1.nest + 1
        · have zg : (a : Int) < (os1.nest : Int) + 1 := by omega
          go_wp2_with fail
          go_roundw
          case rel => exact ⟨j + 1, os1.nest + 1, by go_num, by go_num, by omega, by omega, HFin.out _ (by omega), HJ2.out⟩
          case measure => simp [intOf]; omega
        · have zg : ¬ (a : Int) < (os1.nest : Int) + 1 := by omega
          go_wp2_with fail
          go_roundw
          case rel => exact ⟨j + 1, a, by go_num, rfl, by omega, by omega, HFin.out _ (by omega), HJ2.out⟩
          case measure => simp [intOf]; omega
      · have z16 : (e.kind == 16) = false := by simpa using h16
        go_wp2_with fail
        refine HTop2.out.mono ?_
        rintro r w3 ⟨rfl, hw3⟩
        rw [hw3]
        clear hw3 HTop2
        go_wp2_with fail
        refine (l5Wrapped_core e.kind j os1.kind _ h16).mono ?_
        rintro r w3 ⟨rfl, hw3⟩
        rw [hw3]
        clear hw3
        cases hlv : level e.kind j os1.kind
        · rw [hlv] at fin
          have HFin := fin os1.nest rfl (by omega)
          clear fin hlv
          by_cases hgt : a < os1.nest
          · have zg : (a : Int) < (os1.nest : Int) := by omega
            go_wp2_with fail
            go_roundw
            case rel => exact ⟨j + 1, os1.nest, by go_num, rfl, by omega, by omega, HFin.out _ (by omega), HJ2.out⟩
            case measure => simp [intOf]; omega
          · have zg : ¬ (a : Int) < (os1.nest : Int) := by omega
            go_wp2_with fail
            go_roundw
            case rel => exact ⟨j + 1, a, by go_num, rfl, by omega, by omega, HFin.out _ (by omega), HJ2.out⟩
            case measure => simp [intOf]; omega
        · rw [hlv] at fin
          have HFin := fin (os1.nest + 1) rfl (by omega)
          clear fin hlv
          by_cases hgt : a < os1.nest + 1
          · have zg : (a : Int) < (os1.nest : Int) + 1 := by omega
            go_wp2_with fail
            go_roundw
            case rel => exact ⟨j + 1, os1.nest + 1, by go_num, by go_num, by omega, by omega, HFin.out _ (by omega), HJ2.out⟩
            case measure => simp [intOf]; omega
          · have zg : ¬ (a : Int) < (os1.nest : Int) + 1 := by omega
            go_wp2_with fail
            go_roundw
            case rel => exact ⟨j + 1, a, by go_num, rfl, by omega, by omega, HFin.out _ (by omega), HJ2.out⟩
            case measure => simp [intOf]; omega
    · have zj : ¬ (j : Int) < (a3 : Int) := by omega
      have hd : a = sn := by
        have := HJ.out.1
        rw [List.drop_eq_nil_of_le (by have := HA.out; have := HF.out.2.2.2.1; omega)] at this
        exact this
      subst hd
      go_wp2_with fail
      go_ret
      exact ⟨rfl, HJ.out.2.below⟩
theorem nest_all : ∀ n, NestC G n
  | 0 => fun w b o cap xs s hn hW hS => by
    obtain ⟨ys, e, os, rfl, _⟩ := ShT.inv G hS
    simp at hn
  | n + 1 => nest_of G (nest_all n)
end Go.Proofs.Ytnncedndlhfdkab

