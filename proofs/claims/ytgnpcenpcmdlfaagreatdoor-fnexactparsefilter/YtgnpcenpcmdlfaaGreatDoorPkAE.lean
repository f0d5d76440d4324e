import Derived.Deep.DeepCutAuto
import Derived.Maps.AppendAt
import Derived.Test.YtgnpcenpcmdlfaaGreatDoorPkAD
import Derived.Test.YtgnpcenpcmdlfaaGreatDoorPkAA
/-
  spec.l5GoodNode.
-/
namespace Go.Proofs.YtgnpcenpcmdlfaaGreatDoor
open Go.ChangeShapes Go.WideShapes Go.ChangeAt Go.RowKit Go.Deep
set_option linter.unusedVariables false
set_option linter.unusedSimpArgs false
set_option maxRecDepth 100000

theorem regField (c k : Int) (w : World) : (Instr.field 125 (.agg #[.int .i64 c, .int .i64 k]) 0).run Tryz.prog w = .ok (.int .i64 c) w := by kernel_rfl
/-- What is said of a node. -/
def NdPost (e : Nd) (w : World) (r : Ending) (w' : World) : Prop := ∃ b, r = .returned (.bool b) ∧ (b = true ↔ GoodN e) ∧ Below w.heap.size w w'
set_option maxHeartbeats 8000000 in
theorem good_core (e : Nd) (w : World) (hs : e.s.size ≤ maxLen) (ht : e.t.size ≤ maxLen) : Calls Tryz.prog 38 #[e.v] w (NdPost e w) := by
  obtain ⟨kind, s, hi, t, lo, up, n⟩ := e
  have HS : Hid (s.size ≤ maxLen) := hs
  unfold maxLen at hs ht
  simp only [] at hs ht
  obtain ⟨W0, hW0⟩ : ∃ W0 : World, W0 = w.alloc (Obj.cells #[.int .i64 kind, .string s, .bool hi, .string t, .int .u64 lo, .int .u64 up, .int .i64 n] 65) := ⟨_, rfl⟩
  have HW0 : Hid (BoxAt W0 w.heap.size 65 7 w.heap.size [.int .i64 kind, .string s, .bool hi, .string t, .int .u64 lo, .int .u64 up, .int .i64 n] ∧ Below w.heap.size w W0) := by
    rw [hW0]; exact ⟨boxAt_new w _ (Nat.le_refl _) rfl, (Below.refl _ _).alloc (Nat.le_refl _) _⟩
  have hbw := HW0.out.2.size
  have c0 := HW0.out.1.cell (j := 0) rfl
  have c1 := HW0.out.1.cell (j := 1) rfl
  have c2 := HW0.out.1.cell (j := 2) rfl
  have c3 := HW0.out.1.cell (j := 3) rfl
  have c4 := HW0.out.1.cell (j := 4) rfl
  have c5 := HW0.out.1.cell (j := 5) rfl
  have c6 := HW0.out.1.cell (j := 6) rfl
  go_enter Tryz.func38, Tryz.ntmps38
  go_upto_region 1 with fail
  rw [← hW0]
  clear hW0
  by_cases hgood : s.size ≤ 200 ∧ t.size ≤ 200 ∧ (hi = true ∨ (hi = false ∧ t.toList = [] ∧ up = 0))
  case neg =>
    have HG : Hid (¬ GoodN ⟨kind, s, hi, t, lo, up, n⟩) := fun q => hgood ⟨q.1, q.2.1, by
      cases hi
      · exact .inr ⟨rfl, q.2.2.1 rfl⟩
      · exact .inl rfl⟩
    by_cases h1 : s.size ≤ 200
    · have z1 : ¬ (200 : Int) < (s.size : Int) := by omega
      by_cases h2 : t.size ≤ 200
      · have z2 : ¬ (200 : Int) < (t.size : Int) := by omega
        have hhi : hi = false := by cases hi; rfl; exact absurd ⟨h1, h2, .inl rfl⟩ hgood
        subst hhi
        by_cases h3 : t.toList = []
        · have h4 : ¬ up = 0 := fun q => hgood ⟨h1, h2, .inr ⟨rfl, h3, q⟩⟩
          clear hgood
          go_wp2_with fail
          go_ret
          exact ⟨_, rfl, by simp [HG.out], HW0.out.2⟩
        · clear hgood
          go_wp2_with fail
          go_ret
          exact ⟨_, rfl, by simp [HG.out], HW0.out.2⟩
      · have z2 : (200 : Int) < (t.size : Int) := by omega
        clear hgood
        go_wp2_with fail
        go_ret
        exact ⟨_, rfl, by simp [HG.out], HW0.out.2⟩
    · have z1 : (200 : Int) < (s.size : Int) := by omega
      clear hgood
      go_wp2_with fail
      go_ret
      exact ⟨_, rfl, by simp [HG.out], HW0.out.2⟩
  have HG : Hid (s.size ≤ 200 ∧ t.size ≤ 200 ∧ (hi = false → t.toList = [] ∧ up = 0)) := ⟨hgood.1, hgood.2.1, fun q => hgood.2.2.elim (fun z => by rw [q] at z; cases z) (fun z => z.2)⟩
  go_cut [27] (fun s wx => s = .bool false ∧ wx = W0)
  case first =>
    have z1 : ¬ (200 : Int) < (s.size : Int) := by have := HG.out.1; omega
    have z2 : ¬ (200 : Int) < (t.size : Int) := by have := HG.out.2.1; omega
    rcases hgood.2.2 with rfl | ⟨rfl, h3, rfl⟩
    · go_wp2_with fail
      go_meet
      exact ⟨rfl, rfl⟩
    · go_wp2_with fail
      go_meet
      exact ⟨rfl, rfl⟩
  case rest =>
  obtain ⟨rfl, rfl⟩ := hcut
  clear hgood hs ht
  obtain ⟨c, hc⟩ : ∃ c, c = (checkM (sb s)).1 := ⟨_, rfl⟩
  obtain ⟨k, hk⟩ : ∃ k : Int, k = ((checkM (sb s)).2 : Int) := ⟨_, rfl⟩
  have HV : Hid (c = (checkM (sb s)).1) := hc
  have HC : Hid (∀ w, Calls Tryz.prog 78 #[.string s] w fun e w' => e = .returned (.agg #[.int .i64 c, .int .i64 k]) ∧ Below w.heap.size w w') := fun w => by
    rw [hc, hk]; exact specCheck_core s w HS.out
  clear hc hk
  by_cases k4 : kind = 4
  · subst k4
    go_wp2_with fail
    refine (bareS_core ⟨4, s, hi, t, lo, up, n⟩ _).mono ?_
    rintro r w1 ⟨b, rfl, hb, hb1⟩
    have HB : Hid (b = true ↔ (hi = false ∧ t.toList = [] ∧ lo = 0 ∧ up = 0 ∧ n = 0)) := hb
    have d0 := (HW0.out.1.below hb1).cell (j := 0) rfl
    have d1 := (HW0.out.1.below hb1).cell (j := 1) rfl
    have d2 := (HW0.out.1.below hb1).cell (j := 2) rfl
    have d3 := (HW0.out.1.below hb1).cell (j := 3) rfl
    have d4 := (HW0.out.1.below hb1).cell (j := 4) rfl
    have d5 := (HW0.out.1.below hb1).cell (j := 5) rfl
    have d6 := (HW0.out.1.below hb1).cell (j := 6) rfl
    clear hb
    cases b
    · have HF : Hid (¬ GoodN ⟨4, s, hi, t, lo, up, n⟩) := by
        show ¬ GoodN _
        have hB := HB.out
        intro q
        simp [GoodN] at q hB
        simp_all
      go_wp2_with fail
      go_ret
      exact ⟨_, rfl, by simp [HF.out], HW0.out.2.trans (hb1.mono hbw)⟩
    · have hfd := regField c k
      go_wp2_with fail
      refine (HC.out _).mono ?_
      rintro r w2 ⟨rfl, hb2⟩
      have hs1 := hb1.size
      have HK : Hid (Below w.heap.size w w2) := (HW0.out.2.trans (hb1.mono hbw)).trans (hb2.mono (by omega))
      clear hb1 hb2 d0 d1 d2 d3 d4 d5 d6
      go_wp2_with fail
      go_ret
      refine ⟨_, rfl, ?_, HK.out⟩
      have hG := HG.out
      have hB := HB.out
      simp at hB
      rw [HV.out]
      simp [GoodN]
      simp_all
  by_cases k5 : kind = 5
  · subst k5
    go_wp2_with fail
    refine (bareS_core ⟨5, s, hi, t, lo, up, n⟩ _).mono ?_
    rintro r w1 ⟨b, rfl, hb, hb1⟩
    have HB : Hid (b = true ↔ (hi = false ∧ t.toList = [] ∧ lo = 0 ∧ up = 0 ∧ n = 0)) := hb
    have d0 := (HW0.out.1.below hb1).cell (j := 0) rfl
    have d1 := (HW0.out.1.below hb1).cell (j := 1) rfl
    have d2 := (HW0.out.1.below hb1).cell (j := 2) rfl
    have d3 := (HW0.out.1.below hb1).cell (j := 3) rfl
    have d4 := (HW0.out.1.below hb1).cell (j := 4) rfl
    have d5 := (HW0.out.1.below hb1).cell (j := 5) rfl
    have d6 := (HW0.out.1.below hb1).cell (j := 6) rfl
    clear hb
    cases b
    · have HF : Hid (¬ GoodN ⟨5, s, hi, t, lo, up, n⟩) := by
        show ¬ GoodN _
        have hB := HB.out
        intro q
        simp [GoodN] at q hB
        simp_all
      go_wp2_with fail
      go_ret
      exact ⟨_, rfl, by simp [HF.out], HW0.out.2.trans (hb1.mono hbw)⟩
    · have hfd := regField c k
      go_wp2_with fail
      refine (HC.out _).mono ?_
      rintro r w2 ⟨rfl, hb2⟩
      have hs1 := hb1.size
      have HK : Hid (Below w.heap.size w w2) := (HW0.out.2.trans (hb1.mono hbw)).trans (hb2.mono (by omega))
      clear hb1 hb2 d0 d1 d2 d3 d4 d5 d6
      go_wp2_with fail
      go_ret
      refine ⟨_, rfl, ?_, HK.out⟩
      have hG := HG.out
      have hB := HB.out
      simp at hB
      rw [HV.out]
      simp [GoodN]
      simp_all
  by_cases k6 : kind = 6
  · subst k6
    go_wp2_with fail
    refine (bareS_core ⟨6, s, hi, t, lo, up, n⟩ _).mono ?_
    rintro r w1 ⟨b, rfl, hb, hb1⟩
    have HB : Hid (b = true ↔ (hi = false ∧ t.toList = [] ∧ lo = 0 ∧ up = 0 ∧ n = 0)) := hb
    have d0 := (HW0.out.1.below hb1).cell (j := 0) rfl
    have d1 := (HW0.out.1.below hb1).cell (j := 1) rfl
    have d2 := (HW0.out.1.below hb1).cell (j := 2) rfl
    have d3 := (HW0.out.1.below hb1).cell (j := 3) rfl
    have d4 := (HW0.out.1.below hb1).cell (j := 4) rfl
    have d5 := (HW0.out.1.below hb1).cell (j := 5) rfl
    have d6 := (HW0.out.1.below hb1).cell (j := 6) rfl
    clear hb
    cases b
    · have HF : Hid (¬ GoodN ⟨6, s, hi, t, lo, up, n⟩) := by
        show ¬ GoodN _
        have hB := HB.out
        intro q
        simp [GoodN] at q hB
        simp_all
      go_wp2_with fail
      go_ret
      exact ⟨_, rfl, by simp [HF.out], HW0.out.2.trans (hb1.mono hbw)⟩
    · have hfd := regField c k
      go_wp2_with fail
      refine (HC.out _).mono ?_
      rintro r w2 ⟨rfl, hb2⟩
      have hs1 := hb1.size
      have HK : Hid (Below w.heap.size w w2) := (HW0.out.2.trans (hb1.mono hbw)).trans (hb2.mono (by omega))
      clear hb1 hb2 d0 d1 d2 d3 d4 d5 d6
      go_wp2_with fail
      go_ret
      refine ⟨_, rfl, ?_, HK.out⟩
      have hG := HG.out
      have hB := HB.out
      simp at hB
      rw [HV.out]
      simp [GoodN]
      simp_all
  by_cases k7 : kind = 7
  · subst k7
    go_wp2_with fail
    refine (bareS_core ⟨7, s, hi, t, lo, up, n⟩ _).mono ?_
    rintro r w1 ⟨b, rfl, hb, hb1⟩
    have HB : Hid (b = true ↔ (hi = false ∧ t.toList = [] ∧ lo = 0 ∧ up = 0 ∧ n = 0)) := hb
    have d0 := (HW0.out.1.below hb1).cell (j := 0) rfl
    have d1 := (HW0.out.1.below hb1).cell (j := 1) rfl
    have d2 := (HW0.out.1.below hb1).cell (j := 2) rfl
    have d3 := (HW0.out.1.below hb1).cell (j := 3) rfl
    have d4 := (HW0.out.1.below hb1).cell (j := 4) rfl
    have d5 := (HW0.out.1.below hb1).cell (j := 5) rfl
    have d6 := (HW0.out.1.below hb1).cell (j := 6) rfl
    clear hb
    cases b
    · have HF : Hid (¬ GoodN ⟨7, s, hi, t, lo, up, n⟩) := by
        show ¬ GoodN _
        have hB := HB.out
        intro q
        simp [GoodN] at q hB
        simp_all
      go_wp2_with fail
      go_ret
      exact ⟨_, rfl, by simp [HF.out], HW0.out.2.trans (hb1.mono hbw)⟩
    · have hfd := regField c k
      go_wp2_with fail
      refine (HC.out _).mono ?_
      rintro r w2 ⟨rfl, hb2⟩
      have hs1 := hb1.size
      have HK : Hid (Below w.heap.size w w2) := (HW0.out.2.trans (hb1.mono hbw)).trans (hb2.mono (by omega))
      clear hb1 hb2 d0 d1 d2 d3 d4 d5 d6
      go_wp2_with fail
      go_ret
      refine ⟨_, rfl, ?_, HK.out⟩
      have hG := HG.out
      have hB := HB.out
      simp at hB
      rw [HV.out]
      simp [GoodN]
      simp_all
  by_cases k8 : kind = 8
  · subst k8
    go_wp2_with fail
    refine (bareST_core ⟨8, s, hi, t, lo, up, n⟩ _).mono ?_
    rintro r w1 ⟨b, rfl, hb, hb1⟩
    have HB : Hid (b = true ↔ (lo = 0 ∧ up = 0 ∧ n = 0)) := hb
    have d0 := (HW0.out.1.below hb1).cell (j := 0) rfl
    have d1 := (HW0.out.1.below hb1).cell (j := 1) rfl
    have d2 := (HW0.out.1.below hb1).cell (j := 2) rfl
    have d3 := (HW0.out.1.below hb1).cell (j := 3) rfl
    have d4 := (HW0.out.1.below hb1).cell (j := 4) rfl
    have d5 := (HW0.out.1.below hb1).cell (j := 5) rfl
    have d6 := (HW0.out.1.below hb1).cell (j := 6) rfl
    clear hb
    cases b
    · have HF : Hid (¬ GoodN ⟨8, s, hi, t, lo, up, n⟩) := by
        show ¬ GoodN _
        have hB := HB.out
        intro q
        simp [GoodN] at q hB
        simp_all
      go_wp2_with fail
      go_ret
      exact ⟨_, rfl, by simp [HF.out], HW0.out.2.trans (hb1.mono hbw)⟩
    · have HF : Hid (GoodN ⟨8, s, hi, t, lo, up, n⟩ ↔ (hi = true → less s t)) := by
        show GoodN _ ↔ _
        have hB := HB.out
        have hG := HG.out
        simp at hB
        simp [GoodN]
        simp_all
      cases hi
      · go_wp2_with fail
        go_ret
        exact ⟨_, rfl, by simp [HF.out], HW0.out.2.trans (hb1.mono hbw)⟩
      · go_wp2_with fail
        go_ret
        exact ⟨_, rfl, by simp [HF.out, less], HW0.out.2.trans (hb1.mono hbw)⟩
  by_cases k9 : kind = 9
  · subst k9
    go_wp2_with fail
    refine (bareST_core ⟨9, s, hi, t, lo, up, n⟩ _).mono ?_
    rintro r w1 ⟨b, rfl, hb, hb1⟩
    have HB : Hid (b = true ↔ (lo = 0 ∧ up = 0 ∧ n = 0)) := hb
    have d0 := (HW0.out.1.below hb1).cell (j := 0) rfl
    have d1 := (HW0.out.1.below hb1).cell (j := 1) rfl
    have d2 := (HW0.out.1.below hb1).cell (j := 2) rfl
    have d3 := (HW0.out.1.below hb1).cell (j := 3) rfl
    have d4 := (HW0.out.1.below hb1).cell (j := 4) rfl
    have d5 := (HW0.out.1.below hb1).cell (j := 5) rfl
    have d6 := (HW0.out.1.below hb1).cell (j := 6) rfl
    clear hb
    cases b
    · have HF : Hid (¬ GoodN ⟨9, s, hi, t, lo, up, n⟩) := by
        show ¬ GoodN _
        have hB := HB.out
        intro q
        simp [GoodN] at q hB
        simp_all
      go_wp2_with fail
      go_ret
      exact ⟨_, rfl, by simp [HF.out], HW0.out.2.trans (hb1.mono hbw)⟩
    · have HF : Hid (GoodN ⟨9, s, hi, t, lo, up, n⟩ ↔ (hi = true → less s t)) := by
        show GoodN _ ↔ _
        have hB := HB.out
        have hG := HG.out
        simp at hB
        simp [GoodN]
        simp_all
      cases hi
      · go_wp2_with fail
        go_ret
        exact ⟨_, rfl, by simp [HF.out], HW0.out.2.trans (hb1.mono hbw)⟩
      · go_wp2_with fail
        go_ret
        exact ⟨_, rfl, by simp [HF.out, less], HW0.out.2.trans (hb1.mono hbw)⟩
  by_cases k10 : kind = 10
  · subst k10
    go_wp2_with fail
    refine (bareN_core ⟨10, s, hi, t, lo, up, n⟩ _).mono ?_
    rintro r w1 ⟨b, rfl, hb, hb1⟩
    have HB : Hid (b = true ↔ (s.toList = [] ∧ t.toList = [] ∧ n = 0)) := hb
    have d0 := (HW0.out.1.below hb1).cell (j := 0) rfl
    have d1 := (HW0.out.1.below hb1).cell (j := 1) rfl
    have d2 := (HW0.out.1.below hb1).cell (j := 2) rfl
    have d3 := (HW0.out.1.below hb1).cell (j := 3) rfl
    have d4 := (HW0.out.1.below hb1).cell (j := 4) rfl
    have d5 := (HW0.out.1.below hb1).cell (j := 5) rfl
    have d6 := (HW0.out.1.below hb1).cell (j := 6) rfl
    clear hb
    cases b
    · have HF : Hid (¬ GoodN ⟨10, s, hi, t, lo, up, n⟩) := by
        show ¬ GoodN _
        have hB := HB.out
        intro q
        simp [GoodN] at q hB
        simp_all
      go_wp2_with fail
      go_ret
      exact ⟨_, rfl, by simp [HF.out], HW0.out.2.trans (hb1.mono hbw)⟩
    · have HF : Hid (GoodN ⟨10, s, hi, t, lo, up, n⟩ ↔ (hi = true → lo < up)) := by
        show GoodN _ ↔ _
        have hB := HB.out
        have hG := HG.out
        simp at hB
        simp [GoodN]
        simp_all
      cases hi
      · go_wp2_with fail
        go_ret
        exact ⟨_, rfl, by simp [HF.out], HW0.out.2.trans (hb1.mono hbw)⟩
      · go_wp2_with fail
        go_ret
        exact ⟨_, rfl, by simp [HF.out], HW0.out.2.trans (hb1.mono hbw)⟩
  by_cases k11 : kind = 11
  · subst k11
    go_wp2_with fail
    refine (bareC_core ⟨11, s, hi, t, lo, up, n⟩ _).mono ?_
    rintro r w1 ⟨b, rfl, hb, hb1⟩
    have HB : Hid (b = true ↔ (s.toList = [] ∧ hi = false ∧ t.toList = [] ∧ lo = 0 ∧ up = 0)) := hb
    have d0 := (HW0.out.1.below hb1).cell (j := 0) rfl
    have d1 := (HW0.out.1.below hb1).cell (j := 1) rfl
    have d2 := (HW0.out.1.below hb1).cell (j := 2) rfl
    have d3 := (HW0.out.1.below hb1).cell (j := 3) rfl
    have d4 := (HW0.out.1.below hb1).cell (j := 4) rfl
    have d5 := (HW0.out.1.below hb1).cell (j := 5) rfl
    have d6 := (HW0.out.1.below hb1).cell (j := 6) rfl
    clear hb
    cases b
    · have HF : Hid (¬ GoodN ⟨11, s, hi, t, lo, up, n⟩) := by
        show ¬ GoodN _
        have hB := HB.out
        intro q
        simp [GoodN] at q hB
        simp_all
      go_wp2_with fail
      go_ret
      exact ⟨_, rfl, by simp [HF.out], HW0.out.2.trans (hb1.mono hbw)⟩
    · have HF : Hid (GoodN ⟨11, s, hi, t, lo, up, n⟩ ↔ (1 ≤ n ∧ n ≤ 1000)) := by
        show GoodN _ ↔ _
        have hB := HB.out
        have hG := HG.out
        simp at hB
        simp [GoodN]
        simp_all
      by_cases h1 : 1 ≤ n
      · go_wp2_with fail
        go_ret
        exact ⟨_, rfl, by rw [HF.out]; simp; omega, HW0.out.2.trans (hb1.mono hbw)⟩
      · go_wp2_with fail
        go_ret
        exact ⟨_, rfl, by rw [HF.out]; simp; omega, HW0.out.2.trans (hb1.mono hbw)⟩
  by_cases k12 : kind = 12
  · subst k12
    go_wp2_with fail
    refine (bareC_core ⟨12, s, hi, t, lo, up, n⟩ _).mono ?_
    rintro r w1 ⟨b, rfl, hb, hb1⟩
    have HB : Hid (b = true ↔ (s.toList = [] ∧ hi = false ∧ t.toList = [] ∧ lo = 0 ∧ up = 0)) := hb
    have d0 := (HW0.out.1.below hb1).cell (j := 0) rfl
    have d1 := (HW0.out.1.below hb1).cell (j := 1) rfl
    have d2 := (HW0.out.1.below hb1).cell (j := 2) rfl
    have d3 := (HW0.out.1.below hb1).cell (j := 3) rfl
    have d4 := (HW0.out.1.below hb1).cell (j := 4) rfl
    have d5 := (HW0.out.1.below hb1).cell (j := 5) rfl
    have d6 := (HW0.out.1.below hb1).cell (j := 6) rfl
    clear hb
    cases b
    · have HF : Hid (¬ GoodN ⟨12, s, hi, t, lo, up, n⟩) := by
        show ¬ GoodN _
        have hB := HB.out
        intro q
        simp [GoodN] at q hB
        simp_all
      go_wp2_with fail
      go_ret
      exact ⟨_, rfl, by simp [HF.out], HW0.out.2.trans (hb1.mono hbw)⟩
    · have HF : Hid (GoodN ⟨12, s, hi, t, lo, up, n⟩ ↔ (1 ≤ n ∧ n ≤ 1000)) := by
        show GoodN _ ↔ _
        have hB := HB.out
        have hG := HG.out
        simp at hB
        simp [GoodN]
        simp_all
      by_cases h1 : 1 ≤ n
      · go_wp2_with fail
        go_ret
        exact ⟨_, rfl, by rw [HF.out]; simp; omega, HW0.out.2.trans (hb1.mono hbw)⟩
      · go_wp2_with fail
        go_ret
        exact ⟨_, rfl, by rw [HF.out]; simp; omega, HW0.out.2.trans (hb1.mono hbw)⟩
  by_cases k13 : kind = 13
  · subst k13
    go_wp2_with fail
    refine (bareC_core ⟨13, s, hi, t, lo, up, n⟩ _).mono ?_
    rintro r w1 ⟨b, rfl, hb, hb1⟩
    have HB : Hid (b = true ↔ (s.toList = [] ∧ hi = false ∧ t.toList = [] ∧ lo = 0 ∧ up = 0)) := hb
    have d0 := (HW0.out.1.below hb1).cell (j := 0) rfl
    have d1 := (HW0.out.1.below hb1).cell (j := 1) rfl
    have d2 := (HW0.out.1.below hb1).cell (j := 2) rfl
    have d3 := (HW0.out.1.below hb1).cell (j := 3) rfl
    have d4 := (HW0.out.1.below hb1).cell (j := 4) rfl
    have d5 := (HW0.out.1.below hb1).cell (j := 5) rfl
    have d6 := (HW0.out.1.below hb1).cell (j := 6) rfl
    clear hb
    cases b
    · have HF : Hid (¬ GoodN ⟨13, s, hi, t, lo, up, n⟩) := by
        show ¬ GoodN _
        have hB := HB.out
        intro q
        simp [GoodN] at q hB
        simp_all
      go_wp2_with fail
      go_ret
      exact ⟨_, rfl, by simp [HF.out], HW0.out.2.trans (hb1.mono hbw)⟩
    · have HF : Hid (GoodN ⟨13, s, hi, t, lo, up, n⟩ ↔ (1 ≤ n ∧ n ≤ 1000)) := by
        show GoodN _ ↔ _
        have hB := HB.out
        have hG := HG.out
        simp at hB
        simp [GoodN]
        simp_all
      by_cases h1 : 1 ≤ n
      · go_wp2_with fail
        go_ret
        exact ⟨_, rfl, by rw [HF.out]; simp; omega, HW0.out.2.trans (hb1.mono hbw)⟩
      · go_wp2_with fail
        go_ret
        exact ⟨_, rfl, by rw [HF.out]; simp; omega, HW0.out.2.trans (hb1.mono hbw)⟩
  by_cases k1 : kind = 1
  · subst k1
    go_wp2_with fail
    refine (bareZ_core ⟨1, s, hi, t, lo, up, n⟩ _).mono ?_
    rintro r w1 ⟨b, rfl, hb, hb1⟩
    have HB : Hid (b = true ↔ (s.toList = [] ∧ hi = false ∧ t.toList = [] ∧ lo = 0 ∧ up = 0 ∧ n = 0)) := hb
    have HF : Hid (b = true ↔ GoodN ⟨1, s, hi, t, lo, up, n⟩) := by
      show b = true ↔ GoodN _
      have hB := HB.out
      have hG := HG.out
      rw [hB]
      simp [GoodN]
      simp_all
    clear hb
    go_wp2_with fail
    go_ret
    exact ⟨_, rfl, HF.out, HW0.out.2.trans (hb1.mono hbw)⟩
  by_cases k2 : kind = 2
  · subst k2
    go_wp2_with fail
    refine (bareZ_core ⟨2, s, hi, t, lo, up, n⟩ _).mono ?_
    rintro r w1 ⟨b, rfl, hb, hb1⟩
    have HB : Hid (b = true ↔ (s.toList = [] ∧ hi = false ∧ t.toList = [] ∧ lo = 0 ∧ up = 0 ∧ n = 0)) := hb
    have HF : Hid (b = true ↔ GoodN ⟨2, s, hi, t, lo, up, n⟩) := by
      show b = true ↔ GoodN _
      have hB := HB.out
      have hG := HG.out
      rw [hB]
      simp [GoodN]
      simp_all
    clear hb
    go_wp2_with fail
    go_ret
    exact ⟨_, rfl, HF.out, HW0.out.2.trans (hb1.mono hbw)⟩
  by_cases k3 : kind = 3
  · subst k3
    go_wp2_with fail
    refine (bareZ_core ⟨3, s, hi, t, lo, up, n⟩ _).mono ?_
    rintro r w1 ⟨b, rfl, hb, hb1⟩
    have HB : Hid (b = true ↔ (s.toList = [] ∧ hi = false ∧ t.toList = [] ∧ lo = 0 ∧ up = 0 ∧ n = 0)) := hb
    have HF : Hid (b = true ↔ GoodN ⟨3, s, hi, t, lo, up, n⟩) := by
      show b = true ↔ GoodN _
      have hB := HB.out
      have hG := HG.out
      rw [hB]
      simp [GoodN]
      simp_all
    clear hb
    go_wp2_with fail
    go_ret
    exact ⟨_, rfl, HF.out, HW0.out.2.trans (hb1.mono hbw)⟩
  by_cases k14 : kind = 14
  · subst k14
    go_wp2_with fail
    refine (bareZ_core ⟨14, s, hi, t, lo, up, n⟩ _).mono ?_
    rintro r w1 ⟨b, rfl, hb, hb1⟩
    have HB : Hid (b = true ↔ (s.toList = [] ∧ hi = false ∧ t.toList = [] ∧ lo = 0 ∧ up = 0 ∧ n = 0)) := hb
    have HF : Hid (b = true ↔ GoodN ⟨14, s, hi, t, lo, up, n⟩) := by
      show b = true ↔ GoodN _
      have hB := HB.out
      have hG := HG.out
      rw [hB]
      simp [GoodN]
      simp_all
    clear hb
    go_wp2_with fail
    go_ret
    exact ⟨_, rfl, HF.out, HW0.out.2.trans (hb1.mono hbw)⟩
  by_cases k15 : kind = 15
  · subst k15
    go_wp2_with fail
    refine (bareZ_core ⟨15, s, hi, t, lo, up, n⟩ _).mono ?_
    rintro r w1 ⟨b, rfl, hb, hb1⟩
    have HB : Hid (b = true ↔ (s.toList = [] ∧ hi = false ∧ t.toList = [] ∧ lo = 0 ∧ up = 0 ∧ n = 0)) := hb
    have HF : Hid (b = true ↔ GoodN ⟨15, s, hi, t, lo, up, n⟩) := by
      show b = true ↔ GoodN _
      have hB := HB.out
      have hG := HG.out
      rw [hB]
      simp [GoodN]
      simp_all
    clear hb
    go_wp2_with fail
    go_ret
    exact ⟨_, rfl, HF.out, HW0.out.2.trans (hb1.mono hbw)⟩
  by_cases k16 : kind = 16
  · subst k16
    go_wp2_with fail
    refine (bareZ_core ⟨16, s, hi, t, lo, up, n⟩ _).mono ?_
    rintro r w1 ⟨b, rfl, hb, hb1⟩
    have HB : Hid (b = true ↔ (s.toList = [] ∧ hi = false ∧ t.toList = [] ∧ lo = 0 ∧ up = 0 ∧ n = 0)) := hb
    have HF : Hid (b = true ↔ GoodN ⟨16, s, hi, t, lo, up, n⟩) := by
      show b = true ↔ GoodN _
      have hB := HB.out
      have hG := HG.out
      rw [hB]
      simp [GoodN]
      simp_all
    clear hb
    go_wp2_with fail
    go_ret
    exact ⟨_, rfl, HF.out, HW0.out.2.trans (hb1.mono hbw)⟩
  have HF : Hid (¬ GoodN ⟨kind, s, hi, t, lo, up, n⟩) := by
    show ¬ GoodN _
    simp only [GoodN]
    rintro ⟨_, _, _, q⟩
    omega
  have hkk : ¬ (1 ≤ kind ∧ kind ≤ 16) := by omega
  by_cases k0 : 1 ≤ kind
  · have k17 : ¬ kind ≤ 16 := fun q => hkk ⟨k0, q⟩
    go_wp2_with fail
    go_ret
    exact ⟨_, rfl, by simp [HF.out], HW0.out.2⟩
  · go_wp2_with fail
    go_ret
    exact ⟨_, rfl, by simp [HF.out], HW0.out.2⟩
end Go.Proofs.YtgnpcenpcmdlfaaGreatDoor

/-
  spec.l5Arity, l5From, l5Top, l5Strength, l5Wrapped, l5Tree.
-/
namespace Go.Proofs.YtgnpcenpcmdlfaaGreatDoor
open Go.ChangeShapes Go.WideShapes Go.ChangeAt Go.RowKit Go.Deep
set_option linter.unusedVariables false
set_option linter.unusedSimpArgs false
set_option maxRecDepth 100000

set_option maxHeartbeats 1000000 in
theorem l5Arity_core (k : Int) (w : World) : Calls Tryz.prog 108 #[.int .i64 k] w fun e w' => e = .returned (.int .i64 (arity k : Int)) ∧ w' = w := by
  by_cases h14 : k = 14
  · subst h14
    go_enter Tryz.func108, Tryz.ntmps108
    go_wp2_with fail
    go_ret
    exact ⟨rfl, rfl⟩
  by_cases h15 : k = 15
  · subst h15
    go_enter Tryz.func108, Tryz.ntmps108
    go_wp2_with fail
    go_ret
    exact ⟨rfl, rfl⟩
  by_cases h16 : k = 16
  · subst h16
    go_enter Tryz.func108, Tryz.ntmps108
    go_wp2_with fail
    go_ret
    exact ⟨rfl, rfl⟩
  have z14 : (k == 14) = false := by simpa using h14
  have z15 : (k == 15) = false := by simpa using h15
  have z16 : (k == 16) = false := by simpa using h16
  have H : Hid (arity k = 0) := by show arity k = 0; unfold arity; rw [if_neg (by omega), if_neg h16]
  go_enter Tryz.func108, Tryz.ntmps108
  go_wp2_with fail
  go_ret
  exact ⟨by rw [H.out]; rfl, rfl⟩
set_option maxHeartbeats 1000000 in
theorem l5Strength_core (k : Int) (w : World) : Calls Tryz.prog 109 #[.int .i64 k] w fun e w' => e = .returned (.int .i64 (strong k : Int)) ∧ w' = w := by
  by_cases h15 : k = 15
  · subst h15
    go_enter Tryz.func109, Tryz.ntmps109
    go_wp2_with fail
    go_ret
    exact ⟨rfl, rfl⟩
  by_cases h14 : k = 14
  · subst h14
    go_enter Tryz.func109, Tryz.ntmps109
    go_wp2_with fail
    go_ret
    exact ⟨rfl, rfl⟩
  have z14 : (k == 14) = false := by simpa using h14
  have z15 : (k == 15) = false := by simpa using h15
  have H : Hid (strong k = 3) := by show strong k = 3; unfold strong; rw [if_neg h15, if_neg h14]
  go_enter Tryz.func109, Tryz.ntmps109
  go_wp2_with fail
  go_ret
  exact ⟨by rw [H.out]; rfl, rfl⟩
set_option maxHeartbeats 1000000 in
theorem l5Wrapped_core (op : Int) (i : Nat) (kid : Int) (w : World) (hop : ¬ op = 16) : Calls Tryz.prog 82 #[.int .i64 op, .int .i64 (i : Int), .int .i64 kid] w fun e w' => e = .returned (.bool (level op i kid)) ∧ w' = w := by
  have zop : (op == 16) = false := by simpa using hop
  by_cases hi : i = 0
  · subst hi
    have HL : Hid (level op 0 kid = decide (strong kid < strong op)) := by
      show level op 0 kid = _
      unfold level; simp [hop]
    go_enter Tryz.func82, Tryz.ntmps82
    go_wp2_with (go_at_call 109; refine (l5Strength_core _ _).mono ?_; rintro e' w' ⟨rfl, rfl⟩)
    go_ret
    exact ⟨by rw [HL.out]; rfl, rfl⟩
  · have zi : ((i : Int) == 0) = false := by simpa using hi
    have HL : Hid (level op i kid = decide (strong kid ≤ strong op)) := by
      show level op i kid = _
      unfold level; simp [hop, hi]
    go_enter Tryz.func82, Tryz.ntmps82
    go_wp2_with (go_at_call 109; refine (l5Strength_core _ _).mono ?_; rintro e' w' ⟨rfl, rfl⟩)
    go_ret
    exact ⟨by rw [HL.out]; rfl, rfl⟩
/-- Nodes in a window of a block. -/
structure Win (w : World) (b off cap : Nat) (xs : List Nd) : Prop where
  at_ : NdsAt w b off xs
  lt : b < w.heap.size
  len : xs.length ≤ cap
  cap : cap ≤ 9223372036854775807
  sm : xs.length ≤ 281474976710656
theorem Win.below {w w' : World} {b off cap : Nat} {xs : List Nd} (h : Win w b off cap xs) (hb : Below w.heap.size w w') : Win w' b off cap xs :=
  ⟨h.at_.below hb h.lt, by have := hb.size; have := h.lt; omega, h.len, h.cap, h.sm⟩
theorem Win.kind {w : World} {b off cap : Nat} {xs : List Nd} (h : Win w b off cap xs) {i : Nat} {e : Nd} (he : xs[i]? = some e) : w.cell? ⟨b, off + i * 7, none⟩ = some (.int .i64 e.kind) := (h.at_ i e he).1
set_option maxHeartbeats 1000000 in
theorem l5Top_core {w : World} {b off cap : Nat} {xs : List Nd} {e : Nd} (h : Win w b off cap (xs ++ [e])) : Calls Tryz.prog 80 #[.slice (some ⟨b, off, none⟩) (xs.length + 1) cap] w fun r w' => r = .returned (.int .i64 e.kind) ∧ w' = w := by
  have hk := h.kind (i := xs.length) (e := e) (by simp)
  obtain ⟨n, hn⟩ : ∃ n, n = xs.length := ⟨_, rfl⟩
  have h1 := h.len
  have h2 := h.cap
  rw [List.length_append, List.length_singleton] at h1
  rw [← hn] at hk h1 ⊢
  clear h hn
  go_enter Tryz.func80, Tryz.ntmps80
  go_wp2_with fail
  go_ret
  exact ⟨rfl, rfl⟩
/-- What l5From answers. -/
def FromPost (xs : List Nd) (w : World) (r : Ending) (w' : World) : Prop := w' = w ∧ ((∃ i : Nat, r = .returned (.int .i64 (i : Int)) ∧ i ≤ xs.length ∧ IsT 1 (xs.drop i)) ∨ (r = .returned (.int .i64 (-1)) ∧ ∀ j, j ≤ xs.length → ¬ IsT 1 (xs.drop j)))
set_option maxHeartbeats 2000000 in
theorem l5From_core {w : World} {b off cap : Nat} {xs : List Nd} (h : Win w b off cap xs) : Calls Tryz.prog 79 #[.slice (some ⟨b, off, none⟩) xs.length cap] w (FromPost xs w) := by
  have HW : Hid (Win w b off cap xs) := h
  have h1 := h.len
  have h2 := h.cap
  have h3 := h.sm
  obtain ⟨n, hn⟩ : ∃ n, n = xs.length := ⟨_, rfl⟩
  have HN : Hid (n = xs.length) := hn
  rw [← hn] at h1 h3 ⊢
  clear h hn
  go_enter Tryz.func79, Tryz.ntmps79
  go_wp2_with fail
  go_loopw [3, 4] (fun nv iv wr => ∃ (i m : Nat), iv = .int .i64 (i : Int) ∧ nv = .int .i64 (m : Int) ∧ i ≤ n ∧ m ≤ 1 + 3 * (n - i) ∧ Sc m (xs.drop i) ∧ wr = w) (fun _ iv _ => (intOf iv).toNat)
  case atStart => exact ⟨n, 1, rfl, rfl, Nat.le_refl _, by omega, by rw [HN.out, List.drop_length]; exact .nil, rfl⟩
  case round =>
    obtain ⟨i, m, rfl, rfl, hi, hm, hS, rfl⟩ := hrel
    have HS : Hid (Sc m (xs.drop i)) := hS
    clear hS
    by_cases hm0 : m = 0
    · subst hm0
      go_wp2_with fail
      go_ret
      refine ⟨rfl, .inl ⟨i, rfl, by have := HN.out; omega, ?_⟩⟩
      have := HS.out.tree (pre := [])
      exact this.1 .nil
    · obtain ⟨m', rfl⟩ : ∃ m', m = m' + 1 := ⟨m - 1, by omega⟩
      have zm : (0 : Int) < (m' : Int) + 1 := by omega
      by_cases hi0 : i = 0
      · subst hi0
        go_wp2_with fail
        go_ret
        exact ⟨rfl, .inr ⟨rfl, fun j hj => sc_none HS.out j (Nat.zero_le _) hj⟩⟩
      · obtain ⟨i', rfl⟩ : ∃ i', i = i' + 1 := ⟨i - 1, by omega⟩
        obtain ⟨e, he⟩ : ∃ e, xs[i']? = some e := ⟨_, List.getElem?_eq_getElem (by have := HN.out; omega)⟩
        have hk := HW.out.kind he
        have hlt : i' < xs.length := by have := HN.out; omega
        have HS2 : Hid (Sc (m' + arity e.kind) (xs.drop i')) := by
          show Sc _ _
          rw [List.drop_eq_getElem_cons hlt, show xs[i'] = e from Option.some.inj ((List.getElem?_eq_getElem hlt).symm.trans he)]
          exact .cons e HS.out
        have ha := arity_le e.kind
        have zi : ¬ (i' : Int) < 0 := by omega
        clear he hlt
        go_wp2_with fail
        refine (l5Arity_core e.kind _).mono ?_
        rintro r w2 ⟨rfl, hw2⟩
        rw [hw2]
        clear hw2
        go_wp2_with fail
        go_roundw
        case rel => exact ⟨i', m' + arity e.kind, by go_num, by go_num, by omega, by omega, HS2.out, by first | rfl | trivial⟩
        case measure => simp [intOf] <;> omega
set_option maxHeartbeats 2000000 in
theorem l5Tree_core {w : World} {b off cap : Nat} {xs : List Nd} (h : Win w b off cap xs) : Calls Tryz.prog 39 #[.slice (some ⟨b, off, none⟩) xs.length cap] w fun r w' => w' = w ∧ ((r = .returned (.bool true) ∧ IsT 1 xs) ∨ (r = .returned (.bool false) ∧ ¬ IsT 1 xs)) := by
  have HW : Hid (Win w b off cap xs) := h
  have h1 := h.len
  have h2 := h.cap
  have h3 := h.sm
  obtain ⟨n, hn⟩ : ∃ n, n = xs.length := ⟨_, rfl⟩
  have HN : Hid (n = xs.length) := hn
  have HF : Hid (Calls Tryz.prog 79 #[.slice (some ⟨b, off, none⟩) n cap] w (FromPost xs w)) := by
    rw [hn]; exact l5From_core h
  rw [← hn] at h1 h3 ⊢
  clear h hn
  by_cases hn0 : n = 0
  · subst hn0
    have HE : Hid (¬ IsT 1 xs) := fun q => by
      have := q.len
      have := HN.out
      omega
    go_enter Tryz.func39, Tryz.ntmps39
    go_wp2_with fail
    go_ret
    exact ⟨rfl, .inr ⟨rfl, HE.out⟩⟩
  · have zn : (0 : Int) < (n : Int) := by omega
    go_enter Tryz.func39, Tryz.ntmps39
    go_wp2_with fail
    refine HF.out.mono ?_
    rintro r w2 ⟨hw2, (⟨i, rfl, hi, hT⟩ | ⟨rfl, hT⟩)⟩
    · rw [hw2]
      clear hw2
      have HT : Hid (i ≤ xs.length ∧ IsT 1 (xs.drop i)) := ⟨hi, hT⟩
      clear hi hT
      by_cases hi0 : i = 0
      · subst hi0
        go_wp2_with fail
        go_ret
        exact ⟨rfl, .inl ⟨rfl, by simpa using HT.out.2⟩⟩
      · have zi : ((i : Int) == 0) = false := by simpa using hi0
        go_wp2_with fail
        go_ret
        refine ⟨rfl, .inr ⟨rfl, fun q => hi0 ?_⟩⟩
        exact (tree_one (xs := xs) (i := 0) (j := i) (by simpa using q) HT.out.2 (Nat.zero_le _) HT.out.1).symm
    · rw [hw2]
      clear hw2
      have HT : Hid (¬ IsT 1 xs) := fun q => hT 0 (Nat.zero_le _) (by simpa using q)
      clear hT
      go_wp2_with fail
      go_ret
      exact ⟨rfl, .inr ⟨rfl, HT.out⟩⟩
end Go.Proofs.YtgnpcenpcmdlfaaGreatDoor

/-
  spec.l5Kids, l5Nest.
-/
namespace Go.Proofs.YtgnpcenpcmdlfaaGreatDoor
open Go.ChangeShapes Go.WideShapes Go.ChangeAt Go.RowKit Go.Deep
set_option linter.unusedVariables false
set_option linter.unusedSimpArgs false
set_option maxRecDepth 100000

/-- A list of lists of nodes of the call's own. -/
def OwnV (w : World) (base g cp : Nat) (us : List Value) : Prop := w.ownsRow base 23 1 (.slice (some ⟨g, 0, none⟩) us.length cp) us.length us
theorem OwnV.lt {w : World} {base g cp : Nat} {us : List Value} (h : OwnV w base g cp us) : base ≤ g ∧ g < w.heap.size := World.ownsRow.lt h g rfl
theorem OwnV.below {w w' : World} {base g cp : Nat} {us : List Value} (h : OwnV w base g cp us) (hb : Below w.heap.size w w') : OwnV w' base g cp us := own_chg h (Chg.of_below hb) (S := fun _ => False) (fun k q z => z)
theorem OwnV.cell {w : World} {base g cp : Nat} {us : List Value} (h : OwnV w base g cp us) {j : Nat} {v : Value} (hv : us[j]? = some v) : w.cell? ⟨g, j, none⟩ = some v := by
  have hj := (List.getElem?_eq_some_iff.1 hv).1
  rw [World.ownsRow.cellAt h j (by omega), hv]
theorem OwnV.caps {w : World} {base g cp : Nat} {us : List Value} (h : OwnV w base g cp us) : us.length ≤ cp ∧ cp ≤ maxLen := by
  rcases h.2 with ⟨h0, _⟩ | ⟨g', cap', cur, hv, _, _, hn, hcap, _, _⟩
  · cases h0
  · simp only [Value.slice.injEq, Option.some.injEq, Addr.mk.injEq, and_true, true_and] at hv
    obtain ⟨rfl, rfl⟩ := hv
    exact ⟨hn, hcap⟩
theorem ownV_new (w : World) {base : Nat} (hb : base ≤ w.heap.size) : OwnV (w.alloc (Obj.cells #[] 23)) base w.heap.size 0 [] :=
  World.ownsRow_made w #[] 0 hb (Nat.zero_le _) (by simp)
theorem ownV_one (w : World) {base : Nat} (hb : base ≤ w.heap.size) (v : Value) : OwnV (w.alloc (Obj.cells #[v] 23)) base w.heap.size 1 [v] :=
  World.ownsRow_lit w #[v] 1 hb (by decide) rfl
theorem Tryz.infoNds : (Tryz.prog.info? 23).map (fun i => (i.zero, i.size, i.bytes)) = some (some (.slice none 0 0), 1, 24) := by kernel_rfl
theorem wpList_append_nds {ops : Array Oper} {rest : List Oper} {oo : Oper} {a : Act} {Q : Exit → Act → World → Prop} (w : World) (hgd : oo.guard = none) (s x : Operand)
    (ho : oo.op = .call { callee := .builtin .append, args := #[s, x], argTypes := #[128, 128] })
    (base gq cp n b m cx : Nat) (us vs : List Value) (hs : a.eval s = .slice (some ⟨gq, 0, none⟩) n cp) (hx : a.eval x = .slice (some ⟨b, 0, none⟩) m cx) (hn : n = us.length) (hm : m = vs.length) (hO : OwnV w base gq cp us)
    (hc : ∀ (j : Nat) v, vs[j]? = some v → w.cell? ⟨b, j, none⟩ = some v) (hy : ∀ v ∈ vs, v.oneCell' = true) (hlen : us.length + vs.length ≤ 1000) (hbase : base ≤ w.heap.size)
    (h : ∀ g' cp' w', OwnV w' base g' cp' (us ++ vs) → w.grownBy w' (some gq) → (g' = gq ∨ g' = w.heap.size) → wpList Tryz.prog ops Q rest (a.put oo.dst (.slice (some ⟨g', 0, none⟩) (n + m) cp')) w') : wpList Tryz.prog ops Q (oo :: rest) a w := by
  subst hn hm
  obtain ⟨i, hi, hz0, hz1, hz2⟩ := info_parts Tryz.infoNds
  refine wpList_append_own_at w hgd s x 128 ho base 23 i _ 1 24 Tryz.underlying128 hi hz0 hz1 hz2 rfl (by decide) (.slice (some ⟨gq, 0, none⟩) us.length cp) us.length us hs hO ⟨b, 0, none⟩ vs.length cx vs hx (by simp) ?_ hy ?_ ?_ hbase ?_
  · intro j u hu
    rw [Addr.add_mid, Nat.zero_add]; exact hc j u hu
  · unfold maxLen; omega
  · omega
  · intro v' w' hO' hgr hnil hat
    rcases hO'.2 with ⟨h0, _⟩ | ⟨g', cap', cur, hv, _, _, hn, hcap, _, _⟩
    · have := (hnil.1 h0).1
      cases this
    · subst hv
      refine h g' cap' w' ?_ hgr ?_
      · unfold OwnV
        rw [List.length_append]
        exact hO'
      · simp [Value.ownBlock] at hat
        exact hat
/-- The windows of operands, one behind another. -/
def kidVs (b : Nat) : Nat → Nat → List (List Nd) → List Value
  | _, _, [] => []
  | o, cap, k :: ks => .slice (some ⟨b, o, none⟩) k.length cap :: kidVs b (o + k.length * 7) (cap - k.length) ks
theorem kidVs_len (b : Nat) : ∀ (o cap : Nat) (ks : List (List Nd)), (kidVs b o cap ks).length = ks.length
  | _, _, [] => rfl
  | o, cap, k :: ks => by simp [kidVs, kidVs_len]
theorem kidVs_one (b : Nat) : ∀ (o cap : Nat) (ks : List (List Nd)), ∀ v ∈ kidVs b o cap ks, v.oneCell' = true
  | _, _, [], v, h => by cases h
  | o, cap, k :: ks, v, h => by
    rcases List.mem_cons.1 h with rfl | h
    · rfl
    · exact kidVs_one b _ _ ks v h
theorem NdsAt.part {w : World} {b o : Nat} {xs ys : List Nd} (h : NdsAt w b o (xs ++ ys)) : NdsAt w b o xs ∧ NdsAt w b (o + xs.length * 7) ys := by
  refine ⟨fun i e he => h i e (by rw [List.getElem?_append_left (List.getElem?_eq_some_iff.1 he).1]; exact he), fun i e he => ?_⟩
  have := h (xs.length + i) e (by rw [List.getElem?_append_right (by omega), Nat.add_sub_cancel_left]; exact he)
  rw [Nat.add_mul, ← Nat.add_assoc] at this
  exact this
/-- Each window holds its operand. -/
theorem kidVs_nth {w : World} {b : Nat} : ∀ {ks : List (List Nd)} {o cap : Nat} {rest : List Nd}, Win w b o cap (ks.flatten ++ rest) → ∀ {j : Nat} {k : List Nd}, ks[j]? = some k → ∃ o' cap', (kidVs b o cap ks)[j]? = some (.slice (some ⟨b, o', none⟩) k.length cap') ∧ Win w b o' cap' k
  | [], _, _, _, _, j, k, h => by simp at h
  | a :: ks, o, cap, rest, hW, j, k, h => by
    simp only [List.flatten_cons, List.append_assoc] at hW
    have hp := hW.at_.part
    have hl := hW.len
    have hc := hW.cap
    have hs := hW.sm
    simp only [List.length_append] at hl hs
    cases j with
    | zero =>
      simp at h
      subst h
      exact ⟨o, cap, rfl, hp.1, hW.lt, by omega, hc, by omega⟩
    | succ j =>
      simp at h
      exact kidVs_nth (ks := ks) (o := o + a.length * 7) (cap := cap - a.length) (rest := rest) ⟨hp.2, hW.lt, by simp only [List.length_append]; omega, by omega, by simp only [List.length_append]; omega⟩ h
structure KiJ (w : World) (b o cap : Nat) (pre suf : List (List Nd)) (g cp : Nat) (wr : World) : Prop where
  own : OwnV wr w.heap.size g cp (kidVs b (o + pre.flatten.length * 7) (cap - pre.flatten.length) suf)
  below : Below w.heap.size w wr
set_option maxHeartbeats 4000000 in
theorem l5Kids_core {w : World} {b o cap : Nat} {ks : List (List Nd)} {e : Nd} (h : Win w b o cap (ks.flatten ++ [e])) (hk : ks.length = arity e.kind) (hT : ∀ k ∈ ks, IsT 1 k) :
    Calls Tryz.prog 81 #[.slice (some ⟨b, o, none⟩) (ks.flatten.length + 1) cap] w fun r w' => ∃ g cp, r = .returned (.slice (some ⟨g, 0, none⟩) ks.length cp) ∧ OwnV w' w.heap.size g cp (kidVs b o cap ks) ∧ Below w.heap.size w w' := by
  have HW : Hid (Win w b o cap (ks.flatten ++ [e]) ∧ ∀ k ∈ ks, IsT 1 k) := ⟨h, hT⟩
  have hkind := h.kind (i := ks.flatten.length) (e := e) (by simp)
  have h1 := h.len
  have h2 := h.cap
  have h3 := h.sm
  obtain ⟨n, hn⟩ : ∃ n, n = ks.flatten.length := ⟨_, rfl⟩
  have HN : Hid (n = ks.flatten.length) := hn
  rw [List.length_append, List.length_singleton] at h1 h3
  rw [← hn] at hkind h1 h3 ⊢
  have ha := arity_le e.kind
  have HA : Hid (ks.length = arity e.kind) := hk
  obtain ⟨W0, hW0⟩ : ∃ W0 : World, W0 = w.alloc (Obj.cells #[] 23) := ⟨_, rfl⟩
  have HW0 : Hid (KiJ w b o cap ks [] w.heap.size 0 W0) := by
    rw [hW0]; exact ⟨ownV_new w (Nat.le_refl _), (Below.refl _ _).alloc (Nat.le_refl _) _⟩
  have hkind0 : W0.cell? ⟨b, o + n * 7, none⟩ = some (.int .i64 e.kind) := by
    rw [(Chg.of_below HW0.out.below (S := fun _ => False)).cell (p := ⟨b, o + n * 7, none⟩) h.lt (fun q => q)]; exact hkind
  obtain ⟨a, hak⟩ : ∃ a, a = arity e.kind := ⟨_, rfl⟩
  have HAr : Hid (Calls Tryz.prog 108 #[.int .i64 e.kind] W0 fun r w' => r = .returned (.int .i64 (a : Int)) ∧ w' = W0) := by
    rw [hak]; exact l5Arity_core e.kind W0
  have HAk : Hid (ks.length = a) := by rw [hak]; exact hk
  rw [hk, ← hak]
  rw [← hak] at ha
  clear h hn hT hk hkind HA hak
  go_enter Tryz.func81, Tryz.ntmps81
  go_upto_region 3 with fail
  rw [← hW0]
  clear hW0
  go_wp2_with fail
  refine HAr.out.mono ?_
  rintro r w1 ⟨rfl, hw1⟩
  rw [hw1]
  clear hw1 hkind0 HAr
  go_wp2_with fail
  go_loopw [3, 4, 5] (fun rv ov kv wr => ∃ (c m g cp : Nat) (pre suf : List (List Nd)), ks = pre ++ suf ∧ pre.length = c ∧ suf.length + c = a ∧ m = pre.flatten.length ∧ m ≤ n ∧ kv = .int .i64 (c : Int) ∧ rv = .slice (some ⟨b, o, none⟩) m cap ∧ ov = .slice (some ⟨g, 0, none⟩) suf.length cp ∧ KiJ w b o cap pre suf g cp wr) (fun _ _ kv _ => (intOf kv).toNat)
  case atStart => exact ⟨a, n, _, 0, ks, [], by simp, HAk.out, by simp, HN.out, Nat.le_refl _, rfl, rfl, rfl, HW0.out⟩
  case round =>
    obtain ⟨c, m, g, cp, pre, suf, hks, hpl, hsl, hm, hmn, rfl, rfl, rfl, hJ⟩ := hrel
    have HJ : Hid (KiJ w b o cap pre suf g cp wr ∧ ks = pre ++ suf ∧ m = pre.flatten.length ∧ pre.length = c) := ⟨hJ, hks, hm, hpl⟩
    have hgl := hJ.own.lt
    have hsz := hJ.below.size
    clear hJ hks hm hpl HW0
    obtain ⟨q, hq⟩ : ∃ q, q = suf.length := ⟨_, rfl⟩
    have HQ : Hid (q = suf.length) := hq
    rw [← hq] at hsl ⊢
    clear hq
    by_cases hc0 : c = 0
    · subst hc0
      have HF : Hid (pre = [] ∧ q = a) := ⟨List.length_eq_zero_iff.1 HJ.out.2.2.2, by omega⟩
      go_wp2_with fail
      go_ret
      have hp := HF.out.1
      have hj := HJ.out.1.own
      have hs := HJ.out.2.1
      rw [hp] at hj hs
      simp at hj hs
      refine ⟨g, cp, by rw [← HF.out.2]; rfl, by rw [hs]; exact hj, HJ.out.1.below⟩
    · obtain ⟨c', rfl⟩ : ∃ c', c = c' + 1 := ⟨c - 1, by omega⟩
      have zc : (0 : Int) < (c' : Int) + 1 := by omega
      obtain ⟨pre', k, hpre⟩ : ∃ pre' k, pre = pre' ++ [k] := by
        rcases List.eq_nil_or_concat pre with h | ⟨p', k, h⟩
        · have := HJ.out.2.2.2; rw [h] at this; simp at this
        · exact ⟨p', k, by rw [h, List.concat_eq_append]⟩
      obtain ⟨m', hm'⟩ : ∃ m', m' = pre'.flatten.length := ⟨_, rfl⟩
      have hmm : m = m' + k.length := by rw [HJ.out.2.2.1, hpre, hm']; simp
      have hkT : IsT 1 k := HW.out.2 k (by rw [HJ.out.2.1, hpre]; simp)
      have hk1 := hkT.len
      have hwin : Win wr b o cap pre.flatten := by
        have hw := HW.out.1
        rw [HJ.out.2.1] at hw
        simp only [List.flatten_append, List.append_assoc] at hw
        have h8 := hw.len
        have h9 := hw.sm
        simp only [List.length_append] at h8 h9
        exact Win.below ⟨hw.at_.part.1, hw.lt, by omega, hw.cap, by omega⟩ HJ.out.1.below
      have HC : Hid (Calls Tryz.prog 79 #[.slice (some ⟨b, o, none⟩) m cap] wr fun r w' => r = .returned (.int .i64 (m' : Int)) ∧ w' = wr) := by
        have hf := l5From_core hwin
        rw [← HJ.out.2.2.1] at hf
        refine hf.mono ?_
        have hdrop : pre.flatten.drop m' = k := by rw [hpre, hm']; simp
        rintro r w2 ⟨hw2, (⟨i, rfl, hi, hTi⟩ | ⟨rfl, hTi⟩)⟩
        · refine ⟨?_, hw2⟩
          have hml : m' ≤ pre.flatten.length := by rw [hpre, hm']; simp
          have : i = m' := by
            rcases Nat.le_total i m' with hle | hle
            · exact tree_one hTi (by rw [hdrop]; exact hkT) hle hml
            · exact (tree_one (by rw [hdrop]; exact hkT) hTi hle hi).symm
          rw [this]
        · exact absurd (by rw [hdrop]; exact hkT) (hTi m' (by rw [hpre, hm']; simp))
      have HP : Hid (pre = pre' ++ [k] ∧ m' = pre'.flatten.length ∧ IsT 1 k ∧ m = m' + k.length) := ⟨hpre, hm', hkT, hmm⟩
      have hmle : m' ≤ m := by omega
      have z1 : (m' : Int) ≤ (m : Int) := by omega
      have z2 : (m : Int) ≤ (cap : Int) := by omega
      have z3 : (m' : Int) ≤ (cap : Int) := by omega
      clear hwin hkT hpre hm' hmm hk1
      go_wp2_with fail
      refine HC.out.mono ?_
      rintro r w2 ⟨rfl, hw2⟩
      rw [hw2]
      clear hw2 HC
      obtain ⟨W5, hW5⟩ : ∃ W5 : World, W5 = wr.alloc (Obj.cells #[.slice (some ⟨b, o + m' * 7, none⟩) (m - m') (cap - m')] 23) := ⟨_, rfl⟩
      have hb5 : Below wr.heap.size wr W5 := by rw [hW5]; exact (Below.refl _ _).alloc (Nat.le_refl _) _
      have hz5 : W5.heap.size = wr.heap.size + 1 := by rw [hW5]; simp
      have HW5 : Hid (OwnV W5 w.heap.size wr.heap.size 1 [.slice (some ⟨b, o + m' * 7, none⟩) (m - m') (cap - m')] ∧ OwnV W5 w.heap.size g cp (kidVs b (o + pre.flatten.length * 7) (cap - pre.flatten.length) suf) ∧ Below w.heap.size w W5) := by
        refine ⟨?_, HJ.out.1.own.below hb5, HJ.out.1.below.trans (hb5.mono hsz)⟩
        rw [hW5]; exact ownV_one wr hsz _
      go_wp2_with (at_builtin; rw [← hW5]; refine wpList_append_nds _ rfl _ _ rfl w.heap.size wr.heap.size 1 1 g q cp [.slice (some ⟨b, o + m' * 7, none⟩) (m - m') (cap - m')] (kidVs b (o + pre.flatten.length * 7) (cap - pre.flatten.length) suf) rfl rfl rfl ?hm ?hO ?hc ?hy ?hl ?hb ?_)
      case hm => rw [kidVs_len]; exact HQ.out
      case hO => exact HW5.out.1
      case hc => exact fun j v hv => HW5.out.2.1.cell hv
      case hy => exact kidVs_one _ _ _ _
      case hl => rw [kidVs_len, ← HQ.out]; simp; omega
      case hb => omega
      intro g' cp' w' hO' hgr hat
      rw [← hW5] at hgr
      have HJ6 : Hid (KiJ w b o cap pre' (k :: suf) g' cp' w' ∧ ks = pre' ++ (k :: suf) ∧ pre'.length = c' ∧ (k :: suf).length = q + 1) := by
        have hP := HP.out
        refine ⟨⟨?_, HW5.out.2.2.grown hgr (by omega) (fun j hj => by cases hj; omega)⟩, by rw [HJ.out.2.1, hP.1]; simp, ?_, by rw [HQ.out]; rfl⟩
        · have e1 : (List.map List.length pre).sum = m' + k.length := by rw [← List.length_flatten, ← HJ.out.2.2.1]; exact hP.2.2.2
          rw [e1] at hO'
          have e2 : m - m' = k.length := by omega
          rw [e2] at hO'
          have e3 : o + (m' + k.length) * 7 = o + m' * 7 + k.length * 7 := by omega
          have e4 : cap - (m' + k.length) = cap - m' - k.length := by omega
          rw [e3, e4] at hO'
          rw [← hP.2.1]
          exact hO'
        · have := HJ.out.2.2.2
          rw [hP.1] at this
          simpa using this
      clear hO' hgr hat hW5 hb5
      go_wp2_with fail
      go_roundw
      case rel => exact ⟨c', m', g', cp', pre', k :: suf, HJ6.out.2.1, HJ6.out.2.2.1, by have := HJ6.out.2.2.2; omega, HP.out.2.1, by omega, by go_num, rfl, by rw [HJ6.out.2.2.2]; go_num, HJ6.out.1⟩
      case measure => simp [intOf] <;> omega
end Go.Proofs.YtgnpcenpcmdlfaaGreatDoor

/-
  spec.l5Nest.
-/
namespace Go.Proofs.YtgnpcenpcmdlfaaGreatDoor
open Go.ChangeShapes Go.WideShapes Go.ChangeAt Go.RowKit Go.Deep
set_option linter.unusedVariables false
set_option linter.unusedSimpArgs false
set_option maxRecDepth 100000

variable (G : Nd → Bool)
def NestC (n : Nat) : Prop := ∀ (w : World) (b o cap : Nat) (xs : List Nd) (s : Shape), xs.length ≤ n → Win w b o cap xs → ShT G [s] xs → Calls Tryz.prog 40 #[.slice (some ⟨b, o, none⟩) xs.length cap] w fun r w' => r = .returned (.int .i64 (s.nest : Int)) ∧ Below w.heap.size w w'
theorem nestFrom_step (op : Int) {os : List Shape} {j a : Nat} {o : Shape} (h : os[j]? = some o) : nestFrom op j a (os.drop j) = nestFrom op (j + 1) (max a (o.nest + if level op j o.kind then 1 else 0)) (os.drop (j + 1)) := by
  have hj := (List.getElem?_eq_some_iff.1 h).1
  rw [List.drop_eq_getElem_cons hj, show os[j] = o from Option.some.inj ((List.getElem?_eq_getElem hj).symm.trans h)]
  rfl
structure NeJ (w : World) (b o cap : Nat) (ks : List (List Nd)) (g cp : Nat) (wr : World) : Prop where
  own : OwnV wr w.heap.size g cp (kidVs b o cap ks)
  below : Below w.heap.size w wr
theorem NeJ.move {w : World} {b o cap : Nat} {ks : List (List Nd)} {g cp : Nat} {wr w' : World} (h : NeJ w b o cap ks g cp wr) (hb : Below wr.heap.size wr w') : NeJ w b o cap ks g cp w' := ⟨h.own.below hb, h.below.trans (hb.mono h.below.size)⟩
set_option maxHeartbeats 4000000 in
theorem nest_of {n : Nat} (H : NestC G n) : NestC G (n + 1) := by
  intro w b o cap xs s hn hW hS
  obtain ⟨ys, e, os, rfl, hal, hS2, hs⟩ := ShT.inv G hS
  obtain ⟨ks, rfl, hK⟩ := ShT.kids G hS2
  have hlen := Kids.length G hK
  have HF : Hid (Win w b o cap (ks.flatten ++ [e]) ∧ Kids G os ks ∧ s = shapeM G e os ∧ os.length = ks.length ∧ ks.flatten.length ≤ n ∧ NestC G n) := ⟨hW, hK, hs, hlen, by simp at hn; rw [List.length_flatten]; omega, H⟩
  have hk3 := arity_le e.kind
  obtain ⟨a3, ha3⟩ : ∃ a3, a3 = ks.length := ⟨_, rfl⟩
  have HA : Hid (a3 = ks.length) := ha3
  have hle : a3 ≤ 3 := by omega
  have hcap := hW.cap
  have hsm : ks.flatten.length + 1 ≤ 281474976710656 := by have := hW.sm; rw [List.length_append, List.length_singleton] at this; exact this
  have hbig : ks.flatten.length + 1 ≤ cap := by have := hW.len; rw [List.length_append, List.length_singleton] at this; exact this
  have HT : Hid (Calls Tryz.prog 80 #[.slice (some ⟨b, o, none⟩) (ks.flatten.length + 1) cap] w fun r w' => r = .returned (.int .i64 e.kind) ∧ w' = w) := l5Top_core hW
  have HKs : Hid (Calls Tryz.prog 81 #[.slice (some ⟨b, o, none⟩) (ks.flatten.length + 1) cap] w fun r w' => ∃ g cp, r = .returned (.slice (some ⟨g, 0, none⟩) a3 cp) ∧ OwnV w' w.heap.size g cp (kidVs b o cap ks) ∧ Below w.heap.size w w') := by
    rw [ha3]; exact l5Kids_core hW (by omega) (Kids.tree G hK)
  have HB : Hid (∀ o ∈ os, o.nest ≤ 281474976710656) := fun o' ho => by
    obtain ⟨k, hk, h3⟩ := kid_len G hK ho
    have h4 := len_flat hk
    have h5 := nest_len G _ (Nat.le_refl _) h3
    omega
  have HSn : Hid (nestFrom e.kind 0 0 os = s.nest) := by show _ = _; rw [hs]; rfl
  rw [List.length_append, List.length_singleton]
  obtain ⟨m, hm⟩ : ∃ m, m = ks.flatten.length := ⟨_, rfl⟩
  rw [← hm] at HT HKs hbig hsm ⊢
  obtain ⟨sn, hsn⟩ : ∃ sn, sn = s.nest := ⟨_, rfl⟩
  have HSn2 : Hid (nestFrom e.kind 0 0 os = sn) := by rw [hsn]; exact HSn
  rw [← hsn]
  clear hW hS hS2 hK hs hal hlen H ha3 hm hn hsn HSn hk3
  go_enter Tryz.func40, Tryz.ntmps40
  go_wp2_with fail
  refine HT.out.mono ?_
  rintro r w1 ⟨rfl, hw1⟩
  rw [hw1]
  clear hw1 HT
  go_wp2_with fail
  refine HKs.out.mono ?_
  rintro r w1 ⟨g, cp, rfl, hO, hb1⟩
  have HW1 : Hid (NeJ w b o cap ks g cp w1) := ⟨hO, hb1⟩
  clear hO hb1 HKs
  go_wp2_with fail
  go_loopw [5, 6] (fun mv iv wr => ∃ (j a : Nat), iv = .int .i64 (j : Int) ∧ mv = .int .i64 (a : Int) ∧ j ≤ a3 ∧ a ≤ 999999999999999 ∧ nestFrom e.kind j a (os.drop j) = sn ∧ NeJ w b o cap ks g cp wr) (fun _ iv _ => a3 - (intOf iv).toNat)
  case atStart => exact ⟨0, 0, rfl, rfl, Nat.zero_le _, by omega, HSn2.out, HW1.out⟩
  case round =>
    obtain ⟨j, a, rfl, rfl, hj, ha, hN, hJ⟩ := hrel
    have HJ : Hid (nestFrom e.kind j a (os.drop j) = sn ∧ NeJ w b o cap ks g cp wr) := ⟨hN, hJ⟩
    have hgl := hJ.own.lt
    have hsz := hJ.below.size
    clear hN hJ HW1 HSn2
    by_cases hlt : j < a3
    · have zj : (j : Int) < (a3 : Int) := by omega
      obtain ⟨k, hk⟩ : ∃ k, ks[j]? = some k := ⟨_, List.getElem?_eq_getElem (by have := HA.out; omega)⟩
      obtain ⟨os1, ho1, hS1⟩ := Kids.nth G HF.out.2.1 hk
      obtain ⟨o', cap', hv, hWk⟩ := kidVs_nth HF.out.1 hk
      have hc := HJ.out.2.own.cell hv
      have hkn : k.length ≤ n := by have := len_flat (List.mem_of_getElem? hk); have := HF.out.2.2.2.2.1; omega
      have hWr := hWk.below HJ.out.2.below
      have HCall : Hid (Calls Tryz.prog 40 #[.slice (some ⟨b, o', none⟩) k.length cap'] wr fun r w' => r = .returned (.int .i64 (os1.nest : Int)) ∧ Below wr.heap.size wr w') := HF.out.2.2.2.2.2 wr b o' cap' k os1 hkn hWr hS1
      obtain ⟨ky, ke, ko, rfl, _, _, hko⟩ := ShT.inv G hS1
      have hkk : os1.kind = ke.kind := by rw [hko]; rfl
      have HTop : Hid (∀ w2, Below wr.heap.size wr w2 → Calls Tryz.prog 80 #[.slice (some ⟨b, o', none⟩) (ky ++ [ke]).length cap'] w2 fun r w' => r = .returned (.int .i64 os1.kind) ∧ w' = w2) := fun w2 hb2 => by
        have := l5Top_core (hWr.below hb2)
        rw [List.length_append, List.length_singleton, hkk]
        exact this
      have hnb := HB.out os1 (List.mem_of_getElem? ho1)
      have HStep : Hid (nestFrom e.kind (j + 1) (max a (os1.nest + if level e.kind j os1.kind then 1 else 0)) (os.drop (j + 1)) = sn) := by
        show _ = _
        rw [← nestFrom_step e.kind ho1]; exact HJ.out.1
      obtain ⟨kl, hkl⟩ : ∃ kl, kl = (ky ++ [ke]).length := ⟨_, rfl⟩
      rw [← hkl] at hc HCall HTop
      clear hk ho1 hS1 hv hWk hkn hWr hko hkk hkl
      go_wp2_with fail
      refine HCall.out.mono ?_
      rintro r w2 ⟨rfl, hb2⟩
      have HJ2 : Hid (NeJ w b o cap ks g cp w2) := HJ.out.2.move hb2
      have hc2 : w2.cell? ⟨g, j, none⟩ = some (.slice (some ⟨b, o', none⟩) kl cap') := by
        rw [(Chg.of_below hb2 (S := fun _ => False)).cell (p := ⟨g, j, none⟩) hgl.2 (fun q => q)]; exact hc
      have HTop2 : Hid (Calls Tryz.prog 80 #[.slice (some ⟨b, o', none⟩) kl cap'] w2 fun r w' => r = .returned (.int .i64 os1.kind) ∧ w' = w2) := HTop.out w2 hb2
      clear hc hb2 HTop HCall
      have fin : ∀ (x : Nat), x = os1.nest + (if level e.kind j os1.kind then 1 else 0) → x ≤ 281474976710657 → Hid (∀ y : Nat, y = max a x → nestFrom e.kind (j + 1) y (os.drop (j + 1)) = sn) := fun x hx _ y hy => by
        rw [hy, hx]; exact HStep.out
      by_cases h16 : e.kind = 16
      · have hlv : level e.kind j os1.kind = true := by unfold level; rw [h16]; rfl
        rw [hlv] at fin
        have HFin := fin (os1.nest + 1) rfl (by omega)
        have z16 : (e.kind == 16) = true := by simpa using h16
        clear fin hlv h16
        by_cases hgt : a < os1.nest + 1
        · have zg : (a : Int) < (os1.nest : Int) + 1 := by omega
          go_wp2_with fail
          go_roundw
          case rel => exact ⟨j + 1, os1.nest + 1, by go_num, by go_num, by omega, by omega, HFin.out _ (by omega), HJ2.out⟩
          case measure => simp [intOf]; omega
        · have zg : ¬ (a : Int) < (os1.nest : Int) + 1 := by omega
          go_wp2_with fail
          go_roundw
          case rel => exact ⟨j + 1, a, by go_num, rfl, by omega, by omega, HFin.out _ (by omega), HJ2.out⟩
          case measure => simp [intOf]; omega
      · have z16 : (e.kind == 16) = false := by simpa using h16
        go_wp2_with fail
        refine HTop2.out.mono ?_
        rintro r w3 ⟨rfl, hw3⟩
        rw [hw3]
        clear hw3 HTop2
        go_wp2_with fail
        refine (l5Wrapped_core e.kind j os1.kind _ h16).mono ?_
        rintro r w3 ⟨rfl, hw3⟩
        rw [hw3]
        clear hw3
        cases hlv : level e.kind j os1.kind
        · rw [hlv] at fin
          have HFin := fin os1.nest rfl (by omega)
          clear fin hlv
          by_cases hgt : a < os1.nest
          · have zg : (a : Int) < (os1.nest : Int) := by omega
            go_wp2_with fail
            go_roundw
            case rel => exact ⟨j + 1, os1.nest, by go_num, rfl, by omega, by omega, HFin.out _ (by omega), HJ2.out⟩
            case measure => simp [intOf]; omega
          · have zg : ¬ (a : Int) < (os1.nest : Int) := by omega
            go_wp2_with fail
            go_roundw
            case rel => exact ⟨j + 1, a, by go_num, rfl, by omega, by omega, HFin.out _ (by omega), HJ2.out⟩
            case measure => simp [intOf]; omega
        · rw [hlv] at fin
          have HFin := fin (os1.nest + 1) rfl (by omega)
          clear fin hlv
          by_cases hgt : a < os1.nest + 1
          · have zg : (a : Int) < (os1.nest : Int) + 1 := by omega
            go_wp2_with fail
            go_roundw
            case rel => exact ⟨j + 1, os1.nest + 1, by go_num, by go_num, by omega, by omega, HFin.out _ (by omega), HJ2.out⟩
            case measure => simp [intOf]; omega
          · have zg : ¬ (a : Int) < (os1.nest : Int) + 1 := by omega
            go_wp2_with fail
            go_roundw
            case rel => exact ⟨j + 1, a, by go_num, rfl, by omega, by omega, HFin.out _ (by omega), HJ2.out⟩
            case measure => simp [intOf]; omega
    · have zj : ¬ (j : Int) < (a3 : Int) := by omega
      have hd : a = sn := by
        have := HJ.out.1
        rw [List.drop_eq_nil_of_le (by have := HA.out; have := HF.out.2.2.2.1; omega)] at this
        exact this
      subst hd
      go_wp2_with fail
      go_ret
      exact ⟨rfl, HJ.out.2.below⟩
theorem nest_all : ∀ n, NestC G n
  | 0 => fun w b o cap xs s hn hW hS => by
    obtain ⟨ys, e, os, rfl, _⟩ := ShT.inv G hS
    simp at hn
  | n + 1 => nest_of G (nest_all n)
end Go.Proofs.YtgnpcenpcmdlfaaGreatDoor

/-
  Nodes that come in: lists of nodes and filters opened, copied and compared.
-/
namespace Go.Proofs.YtgnpcenpcmdlfaaGreatDoor
open Go.ChangeShapes Go.WideShapes Go.ChangeAt Go.RowKit Go.Deep
set_option linter.unusedVariables false
set_option linter.unusedSimpArgs false
set_option maxRecDepth 100000

theorem list7 {α : Type} {cs : List α} (h : cs.length = 7) : ∃ c0 c1 c2 c3 c4 c5 c6, cs = [c0, c1, c2, c3, c4, c5, c6] := by
  match cs, h with
  | [c0, c1, c2, c3, c4, c5, c6], _ => exact ⟨c0, c1, c2, c3, c4, c5, c6, rfl⟩
/-- What is read of a slice of cells that came in. -/
def InNds (w : World) (v : Value) (es : List Nd) : Prop :=
  (∃ a cap, v = .slice a 0 cap ∧ es = []) ∨
  ∃ b off cap, v = .slice (some ⟨b, off, none⟩) es.length cap ∧ NdsAt w b off es ∧ b < w.heap.size ∧ es.length ≤ cap ∧ cap ≤ maxLen
theorem InNds.below {B : Nat} {w w' : World} {v : Value} {es : List Nd} (h : InNds w v es) (hb : Below B w w') (hB : w.heap.size ≤ B) : InNds w' v es := by
  rcases h with h | ⟨b, off, cap, hv, hE, hlt, h1, h2⟩
  · exact .inl h
  · exact .inr ⟨b, off, cap, hv, hE.below hb (by omega), by have := hb.size; omega, h1, h2⟩
theorem made_zeroN (n : Nat) : (madeCells #[.int .i64 0, .string ⟨#[]⟩, .bool false, .string ⟨#[]⟩, .int .u64 0, .int .u64 0, .int .i64 0] (n * 7)).toList = cellsN (List.replicate n zeroN) := by
  apply List.ext_getElem?
  intro j
  by_cases hj : j < n * 7
  · have h := cellsN_get (List.replicate n zeroN) (j / 7) zeroN (by rw [List.getElem?_replicate, if_pos (by omega)]) (j % 7) (Nat.mod_lt _ (by omega))
    rw [show j / 7 * 7 + j % 7 = j by omega] at h
    rw [h]
    have h6 : j % 7 < 7 := Nat.mod_lt _ (by omega)
    simp [madeCells, hj]
    generalize j % 7 = m at *
    match m, h6 with
    | 0, _ => rfl
    | 1, _ => rfl
    | 2, _ => rfl
    | 3, _ => rfl
    | 4, _ => rfl
    | 5, _ => rfl
    | 6, _ => rfl
  · have h1 : (cellsN (List.replicate n zeroN)).length ≤ j := by rw [length_cellsN, List.length_replicate]; omega
    rw [List.getElem?_eq_none h1]
    simp [madeCells, hj]
set_option maxHeartbeats 1000000 in
theorem eqNodeS_same (b off cap b' off' cap' : Nat) (es : List Nd) (w : World) (hE : NdsAt w b off es) (hE' : NdsAt w b' off' es) (hB : b < w.heap.size) (hB' : b' < w.heap.size) (hlen : es.length ≤ maxLen) :
    Calls Tryz.prog 65 #[.slice (some ⟨b, off, none⟩) es.length cap, .slice (some ⟨b', off', none⟩) es.length cap'] w fun e w' =>
      e = .returned (.bool true) ∧ Below w.heap.size w w' := by
  have HE : Hid (NdsAt w b off es ∧ NdsAt w b' off' es) := ⟨hE, hE'⟩
  clear hE hE'
  unfold maxLen at hlen
  go_enter Tryz.func65, Tryz.ntmps65
  go_wp2
  go_loopw [5] (fun i wr => ∃ (k : Nat), k ≤ es.length ∧ i = .int .i64 k ∧ Below w.heap.size w wr) (fun i _ => es.length - (intOf i).toNat)
  case atStart => exact ⟨0, Nat.zero_le _, rfl, Below.refl _ _⟩
  case round =>
    obtain ⟨k, hk, rfl, hb⟩ := hrel
    have hs2 := hb.size
    by_cases hlt : k < es.length
    · obtain ⟨e, he⟩ : ∃ e, es[k]? = some e := ⟨_, List.getElem?_eq_getElem hlt⟩
      obtain ⟨c0, c1, c2, c3, c4, c5, c6⟩ := HE.out.1.below hb hB k e he
      obtain ⟨d0, d1, d2, d3, d4, d5, d6⟩ := HE.out.2.below hb hB' k e he
      clear he
      go_upto_region 6 with fail
      go_cut [26] (fun s wx => s = .bool false ∧ Below w.heap.size w wx)
      case first =>
        have z2 : (k : Int) < (es.length : Int) := by omega
        go_region_with (go_at_call 97; refine (eqNode_same e _).mono ?_; rintro e' w' ⟨rfl, hbb⟩)
        all_goals go_wp2_with fail
        all_goals go_meet
        all_goals exact ⟨rfl, hb.drew.trans (hbb.mono (by simp; omega))⟩
      case rest =>
      obtain ⟨rfl, h3⟩ := hcut
      clear c0 c1 c2 c3 c4 c5 c6 d0 d1 d2 d3 d4 d5 d6
      go_wp2_with fail
      go_roundw
      case rel => exact ⟨k + 1, by omega, by go_num, h3⟩
      case measure => simp [intOf]; omega
    · go_wp2_with fail
      go_ret
      exact ⟨rfl, hb⟩
theorem eqNodeS_own {w : World} {base g cp base' g' cp' : Nat} {es : List Nd} (h : OwnNd w base g cp es) (h' : OwnNd w base' g' cp' es) :
    Calls Tryz.prog 65 #[.slice (some ⟨g, 0, none⟩) es.length cp, .slice (some ⟨g', 0, none⟩) es.length cp'] w fun e w' => e = .returned (.bool true) ∧ Below w.heap.size w w' :=
  eqNodeS_same g 0 cp g' 0 cp' es w h.at h'.at h.lt.2 h'.lt.2 (Nat.le_trans h.caps.1 h.caps.2)
set_option maxHeartbeats 400000 in
theorem eqNodeS_zero (a a' : Option Addr) (cap cap' : Nat) (w : World) :
    Calls Tryz.prog 65 #[.slice a 0 cap, .slice a' 0 cap'] w fun e w' => e = .returned (.bool true) ∧ Below w.heap.size w w' := by
  go_enter Tryz.func65, Tryz.ntmps65
  go_wp2
  go_loopw [5] (fun i wr => i = .int .i64 0 ∧ Below w.heap.size w wr) (fun i _ => 0)
  case atStart => exact ⟨rfl, Below.refl _ _⟩
  case round =>
    obtain ⟨rfl, hb⟩ := hrel
    go_wp2_with fail
    go_ret
    exact ⟨rfl, hb⟩
theorem InNds.own {w : World} {base g n cap : Nat} {es : List Nd} (h : OwnNd w base g cap es) (hn : n = es.length) : InNds w (.slice (some ⟨g, 0, none⟩) n cap) es := by
  subst hn
  exact .inr ⟨g, 0, cap, rfl, h.at, h.lt.2, h.caps.1, h.caps.2⟩
theorem eqNodeS_any (u u' : Value) (es : List Nd) (w : World) (h : InNds w u es) (h' : InNds w u' es) :
    Calls Tryz.prog 65 #[u, u'] w fun e w' => e = .returned (.bool true) ∧ Below w.heap.size w w' := by
  rcases h with ⟨a, cap, rfl, rfl⟩ | ⟨b, off, cap, rfl, hE, hlt, g1, g2⟩
  · rcases h' with ⟨a', cap', rfl, _⟩ | ⟨b', off', cap', rfl, hE', hlt', g1', g2'⟩
    · exact eqNodeS_zero a a' cap cap' w
    · exact eqNodeS_zero a _ cap cap' w
  · rcases h' with ⟨a', cap', rfl, rfl⟩ | ⟨b', off', cap', rfl, hE', hlt', g1', g2'⟩
    · exact eqNodeS_zero _ a' cap cap' w
    · exact eqNodeS_same b off cap b' off' cap' es w hE hE' hlt hlt' (Nat.le_trans g1 g2)
set_option maxHeartbeats 400000 in
theorem eqFilter_any (u u' : Value) (es : List Nd) (w : World) (h : InNds w u es) (h' : InNds w u' es) :
    Calls Tryz.prog 28 #[.agg #[u], .agg #[u']] w fun e w' => e = .returned (.bool true) ∧ Below w.heap.size w w' := by
  have HE : Hid (InNds w u es ∧ InNds w u' es) := ⟨h, h'⟩
  have hu : u.cells = #[u] := by
    rcases h with ⟨a, cap, rfl, _⟩ | ⟨b, off, cap, rfl, _⟩ <;> rfl
  have hu' : u'.cells = #[u'] := by
    rcases h' with ⟨a, cap, rfl, _⟩ | ⟨b, off, cap, rfl, _⟩ <;> rfl
  clear h h'
  go_enter Tryz.func28, Tryz.ntmps28
  go_wp2_with fail
  have k0 : Below w.heap.size w ((w.alloc (Obj.cells #[u] 25)).alloc (Obj.cells #[u'] 25)) := ((Below.refl _ _).alloc (Nat.le_refl _) _).alloc (by simp) _
  refine (eqNodeS_any u u' es _ (HE.out.1.below k0 (Nat.le_refl _)) (HE.out.2.below k0 (Nat.le_refl _))).mono ?_
  rintro e w1 ⟨rfl, hb1⟩
  go_wp2_with fail
  go_ret
  exact ⟨rfl, k0.trans (hb1.mono (by simp; omega))⟩
end Go.Proofs.YtgnpcenpcmdlfaaGreatDoor

/-
  spec.ValidFilter.
-/
namespace Go.Proofs.YtgnpcenpcmdlfaaGreatDoor
open Go.ChangeShapes Go.WideShapes Go.ChangeAt Go.RowKit Go.Deep
set_option linter.unusedVariables false
set_option linter.unusedSimpArgs false
set_option maxRecDepth 100000

open Classical in
/-- Whether a node is valid. -/
noncomputable def goodB (e : Nd) : Bool := decide (GoodN e)
theorem goodB_iff (e : Nd) : goodB e = true ↔ GoodN e := by unfold goodB; simp
/-- What ValidFilter says of nodes. -/
def GoodF (xs : List Nd) : Prop := xs.length ≤ 200 ∧ ∃ s, ShT goodB [s] xs ∧ s.valid = true ∧ s.nest ≤ 20
theorem goodF_all {xs : List Nd} (h : GoodF xs) : ∀ e ∈ xs, GoodN e := by
  obtain ⟨_, s, hs, hv, _⟩ := h
  have := ShT.valid goodB hs
  simp [hv] at this
  exact fun e he => (goodB_iff e).1 (this e he)
theorem sh_one {xs : List Nd} {s t : Shape} (h : ShT goodB [s] xs) (k : ShT goodB [t] xs) : s = t := by
  have a := ShT.fold goodB h []
  have b := ShT.fold goodB k []
  rw [a] at b
  simpa using b
def FltPost (xs : List Nd) (w : World) (r : Ending) (w' : World) : Prop := ∃ b, r = .returned (.bool b) ∧ (b = true ↔ GoodF xs) ∧ Below w.heap.size w w'
/-- Nodes in a window of memory. -/
structure WdN (w : World) (g o cp : Nat) (xs : List Nd) : Prop where
  nds : NdsAt w g o xs
  lt : g < w.heap.size
  caps : xs.length ≤ cp ∧ cp ≤ maxLen
theorem WdN.at {w : World} {g o cp : Nat} {xs : List Nd} (h : WdN w g o cp xs) : NdsAt w g o xs := h.nds
theorem WdN.below {B : Nat} {w w' : World} {g o cp : Nat} {xs : List Nd} (h : WdN w g o cp xs) (hb : Below B w w') (hg : g < B) : WdN w' g o cp xs :=
  ⟨h.at.below hb hg, by have := hb.size; have := h.lt; omega, h.caps⟩
theorem OwnNd.wd {w : World} {base g cp : Nat} {xs : List Nd} (h : OwnNd w base g cp xs) : WdN w g 0 cp xs := ⟨h.at, h.lt.2, h.caps⟩
set_option maxHeartbeats 4000000 in
theorem specFilter_win {w : World} {g o cp : Nat} {xs : List Nd} (h : WdN w g o cp xs) (hok : ∀ e ∈ xs, e.ok) : Calls Tryz.prog 16 #[.agg #[.slice (some ⟨g, o, none⟩) xs.length cp]] w (FltPost xs w) := by
  have HO : Hid (WdN w g o cp xs ∧ ∀ e ∈ xs, e.ok) := ⟨h, hok⟩
  have hg := h.lt
  have hcp := h.caps
  obtain ⟨n, hn⟩ : ∃ n, n = xs.length := ⟨_, rfl⟩
  have HN : Hid (n = xs.length) := hn
  rw [← hn] at hcp ⊢
  unfold maxLen at hcp
  clear h hok hn
  obtain ⟨W0, hW0⟩ : ∃ W0 : World, W0 = w.alloc (Obj.cells #[.slice (some ⟨g, o, none⟩) n cp] 25) := ⟨_, rfl⟩
  have HW0 : Hid (BoxAt W0 w.heap.size 25 1 w.heap.size [.slice (some ⟨g, o, none⟩) n cp] ∧ Below w.heap.size w W0) := by
    rw [hW0]; exact ⟨boxAt_new w _ (Nat.le_refl _) rfl, (Below.refl _ _).alloc (Nat.le_refl _) _⟩
  have c0 := HW0.out.1.cell (j := 0) rfl
  have s0 := HW0.out.2.size
  go_enter Tryz.func16, Tryz.ntmps16
  go_upto_region 1 with fail
  rw [← hW0]
  clear hW0
  by_cases hbig : 200 < n
  · have zb : (200 : Int) < (n : Int) := by omega
    have HF : Hid (¬ GoodF xs) := fun q => by have := q.1; have := HN.out; omega
    go_wp2_with fail
    go_ret
    exact ⟨_, rfl, by simp [HF.out], HW0.out.2⟩
  have zb : ¬ (200 : Int) < (n : Int) := by omega
  go_wp2_with fail
  clear c0
  go_loopw [3] (fun iv wr => ∃ (j : Nat), iv = .int .i64 (j : Int) ∧ j ≤ n ∧ (∀ e ∈ xs.take j, GoodN e) ∧ BoxAt wr w.heap.size 25 1 w.heap.size [.slice (some ⟨g, o, none⟩) n cp] ∧ Below w.heap.size w wr) (fun iv _ => n - (intOf iv).toNat)
  case atStart => exact ⟨0, rfl, Nat.zero_le _, by simp, HW0.out⟩
  case round =>
    obtain ⟨j, rfl, hj, hG, hB, hb⟩ := hrel
    have HJ : Hid ((∀ e ∈ xs.take j, GoodN e) ∧ BoxAt wr w.heap.size 25 1 w.heap.size [.slice (some ⟨g, o, none⟩) n cp] ∧ Below w.heap.size w wr) := ⟨hG, hB, hb⟩
    have c0 := hB.cell (j := 0) rfl
    have sr := hb.size
    clear hG hB hb HW0
    by_cases hlt : j < n
    · have zj : (j : Int) < (n : Int) := by omega
      obtain ⟨e, he⟩ : ∃ e, xs[j]? = some e := ⟨_, List.getElem?_eq_getElem (by have := HN.out; omega)⟩
      obtain ⟨d0, d1, d2, d3, d4, d5, d6⟩ := (HO.out.1.at.below HJ.out.2.2 hg) j e he
      have ok := HO.out.2 e (List.mem_of_getElem? he)
      have HE : Hid (e.s.size ≤ maxLen ∧ e.t.size ≤ maxLen ∧ e ∈ xs ∧ xs.take (j + 1) = xs.take j ++ [e]) := ⟨ok.s, ok.t, List.mem_of_getElem? he, by rw [List.take_add_one, he]; rfl⟩
      clear ok he
      go_wp2_with fail
      refine (good_core e wr HE.out.1 HE.out.2.1).mono ?_
      rintro r w2 ⟨b, rfl, hb, hb2⟩
      have HB : Hid (b = true ↔ GoodN e) := hb
      have HJ2 : Hid (BoxAt w2 w.heap.size 25 1 w.heap.size [.slice (some ⟨g, o, none⟩) n cp] ∧ Below w.heap.size w w2) := ⟨HJ.out.2.1.below hb2, HJ.out.2.2.trans (hb2.mono sr)⟩
      clear hb hb2 c0 d0 d1 d2 d3 d4 d5 d6
      cases b
      · have HF : Hid (¬ GoodF xs) := fun q => by
          have := HB.out.2 (goodF_all q e HE.out.2.2.1)
          cases this
        go_wp2_with fail
        go_ret
        exact ⟨_, rfl, by simp [HF.out], HJ2.out.2⟩
      · go_wp2_with fail
        go_roundw
        case rel =>
          refine ⟨j + 1, by go_num, by omega, ?_, HJ2.out.1, HJ2.out.2⟩
          intro e' he'
          rw [HE.out.2.2.2] at he'
          rcases List.mem_append.1 he' with h | h
          · exact HJ.out.1 e' h
          · simp at h; subst h; exact HB.out.1 (by first | rfl | trivial)
        case measure => simp [intOf]; omega
    · have zj : ¬ (j : Int) < (n : Int) := by omega
      have HA : Hid (∀ e ∈ xs, GoodN e) := by
        have h1 := HJ.out.1
        rw [List.take_of_length_le (by have := HN.out; omega)] at h1
        exact h1
      have hWin : Win wr g o cp xs := ⟨HO.out.1.at.below HJ.out.2.2 hg, by omega, by rw [← HN.out]; exact hcp.1, by omega, by have := HN.out; omega⟩
      have HT : Hid (Calls Tryz.prog 39 #[.slice (some ⟨g, o, none⟩) n cp] wr fun r w' => w' = wr ∧ ((r = .returned (.bool true) ∧ IsT 1 xs) ∨ (r = .returned (.bool false) ∧ ¬ IsT 1 xs))) := by
        rw [HN.out]; exact l5Tree_core hWin
      have HNe : Hid (∀ s, ShT goodB [s] xs → Calls Tryz.prog 40 #[.slice (some ⟨g, o, none⟩) n cp] wr fun r w' => r = .returned (.int .i64 (s.nest : Int)) ∧ Below wr.heap.size wr w') := fun s hs => by
        rw [HN.out]; exact nest_all goodB xs.length wr g o cp xs s (Nat.le_refl _) hWin hs
      clear hWin
      go_wp2_with fail
      refine HT.out.mono ?_
      rintro r w2 ⟨hw2, (⟨rfl, hT⟩ | ⟨rfl, hT⟩)⟩
      · rw [hw2]
        clear hw2
        obtain ⟨ss, hl, hs⟩ := IsT.shapes goodB hT
        obtain ⟨s, rfl⟩ : ∃ s, ss = [s] := by
          match ss, hl with
          | [s], _ => exact ⟨s, rfl⟩
        have HSh : Hid (ShT goodB [s] xs) := hs
        have HV : Hid (s.valid = true) := by
          show s.valid = true
          have h1 := ShT.valid goodB hs
          have h2 : xs.all goodB = true := List.all_eq_true.2 (fun e he => (goodB_iff e).2 (HA.out e he))
          rw [h2] at h1
          simpa using h1
        have HF : Hid (GoodF xs ↔ s.nest ≤ 20) := by
          show GoodF xs ↔ _
          constructor
          · rintro ⟨_, t, ht, _, hn⟩
            rw [sh_one hs ht]; exact hn
          · intro hn
            exact ⟨by have := HN.out; omega, s, hs, HV.out, hn⟩
        clear hT hl hs
        go_wp2_with fail
        refine (HNe.out s HSh.out).mono ?_
        rintro r w3 ⟨rfl, hb3⟩
        have HB3 : Hid (Below w.heap.size w w3) := HJ.out.2.2.trans (hb3.mono sr)
        clear hb3 c0
        go_wp2_with fail
        go_ret
        exact ⟨_, rfl, by rw [HF.out]; simp <;> omega, HB3.out⟩
      · rw [hw2]
        clear hw2
        have HF : Hid (¬ GoodF xs) := fun q => by
          obtain ⟨_, s, hs, _⟩ := q
          exact hT hs.tree
        clear hT
        go_wp2_with fail
        go_ret
        exact ⟨_, rfl, by simp [HF.out], HJ.out.2.2⟩
theorem specFilter_core {w : World} {base g cp : Nat} {xs : List Nd} (h : OwnNd w base g cp xs) (hok : ∀ e ∈ xs, e.ok) (hc : cp ≤ 281474976710656) : Calls Tryz.prog 16 #[.agg #[.slice (some ⟨g, 0, none⟩) xs.length cp]] w (FltPost xs w) := specFilter_win h.wd hok
end Go.Proofs.YtgnpcenpcmdlfaaGreatDoor

/-
  Trees folded by any visit; the normal form of a filter.
-/
namespace Go.Proofs.YtgnpcenpcmdlfaaGreatDoor
open Go.ChangeShapes Go.WideShapes Go.ChangeAt Go.RowKit Go.Deep
set_option linter.unusedVariables false

section
variable {T : Type} (V : Nd → List T → T)
/-- What a visit makes of trees, one behind another. -/
inductive TrV : List T → List Nd → Prop
  | nil : TrV [] []
  | snoc {ss os : List T} {xs : List Nd} (n : Nd) (ho : os.length = arity n.kind) (h : TrV (ss ++ os) xs) : TrV (ss ++ [V n os]) (xs ++ [n])
def stepV (st : List T) (n : Nd) : Option (List T) :=
  if st.length < arity n.kind then none else some (st.take (st.length - arity n.kind) ++ [V n (st.drop (st.length - arity n.kind))])
def foldV (st : List T) : List Nd → Option (List T)
  | [] => some st
  | n :: ns => (stepV V st n).bind fun s => foldV s ns
theorem foldV_append (st : List T) (xs ys : List Nd) : foldV V st (xs ++ ys) = (foldV V st xs).bind (fun s => foldV V s ys) := by
  induction xs generalizing st with
  | nil => rfl
  | cons x xs ih =>
    simp only [List.cons_append, foldV]
    cases stepV V st x with
    | none => rfl
    | some s => exact ih s
theorem IsT.trv {k : Nat} {xs : List Nd} (h : IsT k xs) : ∃ ss, ss.length = k ∧ TrV V ss xs := by
  induction h with
  | nil => exact ⟨[], rfl, .nil⟩
  | @snoc k xs n h ih =>
    obtain ⟨ss, hl, hs⟩ := ih
    refine ⟨ss.take k ++ [V n (ss.drop k)], by simp; omega, .snoc n (by simp; omega) ?_⟩
    rw [List.take_append_drop]; exact hs
theorem TrV.tree {ss : List T} {xs : List Nd} (h : TrV V ss xs) : IsT ss.length xs := by
  induction h with
  | nil => exact .nil
  | @snoc ss os xs n ho h ih =>
    rw [List.length_append]
    refine IsT.snoc n ?_
    rw [← ho, ← List.length_append]; exact ih
theorem TrV.fold {ss : List T} {xs : List Nd} (h : TrV V ss xs) : ∀ st, foldV V st xs = some (st ++ ss) := by
  induction h with
  | nil => intro st; simp [foldV]
  | @snoc ss os xs n ho h ih =>
    intro st
    rw [foldV_append, ih]
    simp only [Option.bind_some, foldV, stepV]
    rw [if_neg (by simp; omega)]
    have hl : (st ++ (ss ++ os)).length - arity n.kind = (st ++ ss).length := by simp; omega
    rw [hl, ← List.append_assoc, List.take_left, List.drop_left, List.append_assoc]
    simp
theorem TrV.one {ss ts : List T} {xs : List Nd} (h : TrV V ss xs) (k : TrV V ts xs) : ss = ts := by
  have a := h.fold V []
  have b := k.fold V []
  rw [a] at b
  simpa using b
theorem TrV.split {ss : List T} {xs : List Nd} (h : TrV V ss xs) : ∀ {a b : List T}, ss = a ++ b → ∃ ys zs, xs = ys ++ zs ∧ TrV V a ys ∧ TrV V b zs := by
  induction h with
  | nil => intro a b e; obtain ⟨rfl, rfl⟩ : a = [] ∧ b = [] := by simpa using e.symm
           exact ⟨[], [], rfl, .nil, .nil⟩
  | @snoc ss os xs n ho h ih =>
    intro a b e
    rcases List.eq_nil_or_concat b with rfl | ⟨b', z, rfl⟩
    · simp at e; subst e
      exact ⟨xs ++ [n], [], by simp, .snoc n ho h, .nil⟩
    · rw [List.concat_eq_append, ← List.append_assoc] at e
      have e2 := List.append_inj' e rfl
      obtain ⟨e3, e4⟩ := e2
      simp at e4
      subst e3 e4
      obtain ⟨ys, zs, rfl, h1, h2⟩ := ih (a := a) (b := b' ++ os) (by simp)
      refine ⟨ys, zs ++ [n], by simp, h1, ?_⟩
      rw [List.concat_eq_append]
      exact .snoc n ho h2
theorem TrV.inv {s : T} {xs : List Nd} (h : TrV V [s] xs) : ∃ ys n os, xs = ys ++ [n] ∧ os.length = arity n.kind ∧ TrV V os ys ∧ s = V n os := by
  generalize hs : [s] = ss at h
  cases h with
  | nil => cases hs
  | @snoc ss os xs n ho h =>
    have e := List.append_inj' (s₁ := []) (t₁ := [s]) hs rfl
    obtain ⟨e1, e2⟩ := e
    subst e1
    simp at e2
    exact ⟨xs, n, os, rfl, ho, h, e2⟩
/-- The operands of a node, one by one. -/
inductive KidV : List T → List (List Nd) → Prop
  | nil : KidV [] []
  | cons {o : T} {os : List T} {k : List Nd} {ks : List (List Nd)} (h : TrV V [o] k) (t : KidV os ks) : KidV (o :: os) (k :: ks)
theorem TrV.kids : ∀ {os : List T} {ys : List Nd}, TrV V os ys → ∃ ks, ys = ks.flatten ∧ KidV V os ks
  | [], ys, h => by
    have := (TrV.tree V h).zero
    subst this
    exact ⟨[], rfl, .nil⟩
  | o :: os, ys, h => by
    obtain ⟨a, b, rfl, h1, h2⟩ := TrV.split V h (a := [o]) (b := os) rfl
    obtain ⟨ks, rfl, hk⟩ := TrV.kids h2
    exact ⟨a :: ks, rfl, .cons h1 hk⟩
theorem KidV.length {os : List T} {ks : List (List Nd)} (h : KidV V os ks) : os.length = ks.length := by
  induction h with
  | nil => rfl
  | cons _ _ ih => simp [ih]
theorem KidV.tree {os : List T} {ks : List (List Nd)} (h : KidV V os ks) : ∀ k ∈ ks, IsT 1 k := by
  induction h with
  | nil => intro k hk; cases hk
  | cons h1 _ ih =>
    intro k hk
    rcases List.mem_cons.1 hk with rfl | hk
    · exact h1.tree
    · exact ih k hk
theorem KidV.nth {os : List T} {ks : List (List Nd)} (h : KidV V os ks) : ∀ {j : Nat} {k : List Nd}, ks[j]? = some k → ∃ o, os[j]? = some o ∧ TrV V [o] k := by
  induction h with
  | nil => intro j k hk; simp at hk
  | cons h1 _ ih =>
    intro j k hk
    cases j with
    | zero => simp at hk; subst hk; exact ⟨_, rfl, h1⟩
    | succ j => simp at hk; simpa using ih hk
end

/-- One node alone, of a kind. -/
def isK (xs : List Nd) (k : Int) : Prop := ∃ n, xs = [n] ∧ n.kind = k
open Classical in
/-- The normal form of a node over those of its operands. -/
noncomputable def normOf (e : Nd) (ns : List (List Nd)) : List Nd :=
  match ns with
  | [a, b] =>
    if e.kind = 14 then
      if isK a 1 ∨ isK b 2 then b else if isK b 1 ∨ isK a 2 ∨ (isK a 3 ∧ isK b 3) then a else a ++ b ++ [e]
    else
      if isK a 2 then b else if isK b 2 ∨ isK a 1 ∨ a = b then a else a ++ b ++ [e]
  | [p, a, b] => if isK p 1 then a else if isK p 2 then b else if a = b then a else p ++ a ++ b ++ [e]
  | _ => [e]
theorem norm_mem {e : Nd} {ns : List (List Nd)} {x : Nd} (h : x ∈ normOf e ns) : x = e ∨ ∃ k ∈ ns, x ∈ k := by
  unfold normOf at h
  split at h
  · rename_i a b
    have fin : x ∈ a ++ b ++ [e] → x = e ∨ ∃ k ∈ [a, b], x ∈ k := fun q => by
      simp at q
      rcases q with q | q | q
      · exact .inr ⟨a, by simp, q⟩
      · exact .inr ⟨b, by simp, q⟩
      · exact .inl q
    split at h
    · split at h
      · exact .inr ⟨b, by simp, h⟩
      · split at h
        · exact .inr ⟨a, by simp, h⟩
        · exact fin h
    · split at h
      · exact .inr ⟨b, by simp, h⟩
      · split at h
        · exact .inr ⟨a, by simp, h⟩
        · exact fin h
  · rename_i p a b
    split at h
    · exact .inr ⟨a, by simp, h⟩
    · split at h
      · exact .inr ⟨b, by simp, h⟩
      · split at h
        · exact .inr ⟨a, by simp, h⟩
        · simp at h
          rcases h with q | q | q | q
          · exact .inr ⟨p, by simp, q⟩
          · exact .inr ⟨a, by simp, q⟩
          · exact .inr ⟨b, by simp, q⟩
          · exact .inl q
  · simp at h; exact .inl h
theorem norm_len {e : Nd} {ns : List (List Nd)} : (normOf e ns).length ≤ ns.flatten.length + 1 := by
  unfold normOf
  split
  · repeat' split
    all_goals simp
    all_goals omega
  · repeat' split
    all_goals simp
    all_goals omega
  · simp
/-- Nodes of a normal form are nodes of the filter. -/
theorem trv_mem : ∀ (n : Nat) {y : List Nd} {xs : List Nd}, xs.length ≤ n → TrV normOf [y] xs → (∀ x ∈ y, x ∈ xs) ∧ y.length ≤ xs.length
  | 0, y, xs, hn, h => by
    obtain ⟨ys, e, os, rfl, _⟩ := TrV.inv _ h
    simp at hn
  | n + 1, y, xs, hn, h => by
    obtain ⟨ys, e, os, rfl, _, h2, rfl⟩ := TrV.inv _ h
    obtain ⟨ks, rfl, hK⟩ := TrV.kids _ h2
    simp only [List.length_append, List.length_singleton] at hn
    have hk : ∀ (j : Nat) (o : List Nd), os[j]? = some o → ∃ k ∈ ks, (∀ x ∈ o, x ∈ k) ∧ o.length ≤ k.length := fun j o ho => by
      have hj := (List.getElem?_eq_some_iff.1 ho).1
      obtain ⟨k, hk⟩ : ∃ k, ks[j]? = some k := ⟨_, List.getElem?_eq_getElem (by have := KidV.length _ hK; omega)⟩
      obtain ⟨o', ho', ht⟩ := KidV.nth _ hK hk
      rw [ho] at ho'
      cases ho'
      have hm := List.mem_of_getElem? hk
      have := len_flat hm
      exact ⟨k, hm, trv_mem n (by omega) ht⟩
    refine ⟨fun x hx => ?_, ?_⟩
    · rcases norm_mem hx with rfl | ⟨o, ho, hxo⟩
      · simp
      · obtain ⟨j, hj⟩ := List.getElem?_of_mem ho
        obtain ⟨k, hm, h3, _⟩ := hk j o hj
        exact List.mem_append_left _ (List.mem_flatten.2 ⟨k, hm, h3 x hxo⟩)
    · have h4 : ∀ {os : List (List Nd)} {ks : List (List Nd)}, KidV normOf os ks → (∀ k ∈ ks, k.length ≤ n) → os.flatten.length ≤ ks.flatten.length := by
        intro os ks h
        induction h with
        | nil => intro _; simp
        | cons h1 t ih =>
          intro hb
          have h5 := (trv_mem n (hb _ (by simp)) h1).2
          have h6 := ih (fun k hk => hb k (by simp [hk]))
          simp only [List.flatten_cons, List.length_append]
          omega
      have h7 := h4 hK (fun k hk => by have := len_flat hk; omega)
      have h8 := norm_len (e := e) (ns := os)
      simp only [List.length_append, List.length_singleton]
      omega
/-- The normal form of a filter. -/
def NormF (xs y : List Nd) : Prop := TrV normOf [y] xs
theorem normF_one {xs y z : List Nd} (h : NormF xs y) (k : NormF xs z) : y = z := by
  have := TrV.one _ h k
  simpa using this
theorem normF_ex {xs : List Nd} (h : IsT 1 xs) : ∃ y, NormF xs y := by
  obtain ⟨ss, hl, hs⟩ := IsT.trv normOf h
  match ss, hl with
  | [y], _ => exact ⟨y, hs⟩
theorem baInj {a b : ByteArray} (h : a.toList = b.toList) : a = b := by
  rw [ByteArray.toList_eq, ByteArray.toList_eq] at h
  cases a with
  | mk a => cases b with
    | mk b =>
      simp only at h
      congr 1
      exact Array.toList_inj.1 h
/-- A node that has its kind alone. -/
def bareNd (k : Int) : Nd := ⟨k, ⟨#[]⟩, false, ⟨#[]⟩, 0, 0, 0⟩
theorem good_bare {e : Nd} (h : GoodN e) (hk : e.kind = 1 ∨ e.kind = 2 ∨ e.kind = 3 ∨ e.kind = 14 ∨ e.kind = 15 ∨ e.kind = 16) : e = bareNd e.kind := by
  have hE : (⟨#[]⟩ : ByteArray).toList = [] := by rw [ByteArray.toList_eq]
  obtain ⟨kind, s, hi, t, lo, up, n⟩ := e
  obtain ⟨_, _, _, h4⟩ := h
  simp only at hk h4
  have h5 : s.toList = [] ∧ hi = false ∧ t.toList = [] ∧ lo = 0 ∧ up = 0 ∧ n = 0 := by
    rcases h4 with ⟨q, _⟩ | ⟨q, _⟩ | ⟨q, _⟩ | ⟨q, _⟩ | ⟨_, q⟩
    · omega
    · omega
    · omega
    · omega
    · exact q
  obtain ⟨h1, rfl, h2, rfl, rfl, rfl⟩ := h5
  have e1 : s = ⟨#[]⟩ := baInj (by rw [h1, hE])
  have e2 : t = ⟨#[]⟩ := baInj (by rw [h2, hE])
  rw [e1, e2]
  rfl
theorem isK_good {xs : List Nd} {k : Int} (h : isK xs k) (hg : ∀ x ∈ xs, GoodN x) (hk : k = 1 ∨ k = 2 ∨ k = 3) : xs = [bareNd k] := by
  obtain ⟨n, rfl, rfl⟩ := h
  rw [good_bare (hg n (by simp)) (by omega)]
  rfl
end Go.Proofs.YtgnpcenpcmdlfaaGreatDoor

