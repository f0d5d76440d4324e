/-
  impl.validNode.
-/
import Derived.Test.YthkmecppjhcidacNdH
namespace Go.Proofs.Ythkmecppjhcidac
open Go.ChangeShapes Go.WideShapes Go.ChangeAt Go.RowKit Go.Deep
set_option linter.unusedVariables false
set_option linter.unusedSimpArgs false
set_option maxRecDepth 100000

theorem emptyL : (⟨#[]⟩ : ByteArray).toList = [] := by first | (simp; done) | (kernel_rfl; done) | (go_simp; done)
theorem lessL : Op.bytesLess [] [] = false := by first | (kernel_rfl; done) | (decide; done) | (simp [Op.bytesLess]; done)
theorem ndEq_is (k : Int) (s : ByteArray) (h : Bool) (t : ByteArray) (l u n k' : Int) (s' : ByteArray) (h' : Bool) (t' : ByteArray) (l' u' n' : Int) (B : Bool) (hB : B = decide (k = k' ∧ s.toList = s'.toList ∧ h = h' ∧ t.toList = t'.toList ∧ l = l' ∧ u = u' ∧ n = n')) (wx : World) :
    (binOp .eql 76 (.agg #[.int .i64 k, .string s, .bool h, .string t, .int .u64 l, .int .u64 u, .int .i64 n]) (.agg #[.int .i64 k', .string s', .bool h', .string t', .int .u64 l', .int .u64 u', .int .i64 n'])).run Try.prog wx = .ok (.bool B) wx := by
  rw [hB]; exact ndEq_run k s h t l u n k' s' h' t' l' u' n' wx
set_option maxHeartbeats 8000000 in
theorem validNode_core (e : Nd) (w : World) (hs : e.s.size ≤ maxLen) (ht : e.t.size ≤ maxLen) : Calls Try.prog 74 #[e.v] w (NdPost e w) := by
  obtain ⟨kind, s, hi, t, lo, up, n⟩ := e
  have HS : Hid (s.size ≤ maxLen) := hs
  unfold maxLen at hs ht
  simp only [] at hs ht
  obtain ⟨W0, hW0⟩ : ∃ W0 : World, W0 = w.alloc (Obj.cells #[.int .i64 kind, .string s, .bool hi, .string t, .int .u64 lo, .int .u64 up, .int .i64 n] 76) := ⟨_, rfl⟩
  have HW0 : Hid (BoxAt W0 w.heap.size 76 7 w.heap.size [.int .i64 kind, .string s, .bool hi, .string t, .int .u64 lo, .int .u64 up, .int .i64 n] ∧ Below w.heap.size w W0) := by
    rw [hW0]; exact ⟨boxAt_new w _ (Nat.le_refl _) rfl, (Below.refl _ _).alloc (Nat.le_refl _) _⟩
  have hbw := HW0.out.2.size
  have c0 := HW0.out.1.cell (j := 0) rfl
  have c1 := HW0.out.1.cell (j := 1) rfl
  have c2 := HW0.out.1.cell (j := 2) rfl
  have c3 := HW0.out.1.cell (j := 3) rfl
  have c4 := HW0.out.1.cell (j := 4) rfl
  have c5 := HW0.out.1.cell (j := 5) rfl
  have c6 := HW0.out.1.cell (j := 6) rfl
  go_enter Try.func74, Try.ntmps74
  go_upto_region 1 with fail
  rw [← hW0]
  clear hW0
  by_cases hgood : s.size ≤ 200 ∧ t.size ≤ 200
  case neg =>
    have HG : Hid (¬ GoodN ⟨kind, s, hi, t, lo, up, n⟩) := fun q => hgood ⟨q.1, q.2.1⟩
    by_cases h1 : s.size ≤ 200
    · have z1 : ¬ (200 : Int) < (s.size : Int) := by omega
      have h2 : ¬ t.size ≤ 200 := fun q => hgood ⟨h1, q⟩
      have z2 : (200 : Int) < (t.size : Int) := by omega
      clear hgood
      go_wp2_with fail
      go_ret
      exact ⟨_, rfl, by simp [HG.out], HW0.out.2⟩
    · have z1 : (200 : Int) < (s.size : Int) := by omega
      clear hgood
      go_wp2_with fail
      go_ret
      exact ⟨_, rfl, by simp [HG.out], HW0.out.2⟩
  have HG : Hid (s.size ≤ 200 ∧ t.size ≤ 200) := hgood
  have z1 : ¬ (200 : Int) < (s.size : Int) := by omega
  have z2 : ¬ (200 : Int) < (t.size : Int) := by omega
  clear hgood hs ht
  obtain ⟨c, hc⟩ : ∃ c, c = (checkM (sb s)).1 := ⟨_, rfl⟩
  obtain ⟨k, hk⟩ : ∃ k : Int, k = ((checkM (sb s)).2 : Int) := ⟨_, rfl⟩
  have HV : Hid (c = (checkM (sb s)).1) := hc
  have HC : Hid (∀ w, Calls Try.prog 98 #[.string s] w fun e w' => e = .returned (.agg #[.int .i64 c, .int .i64 k]) ∧ Below w.heap.size w w') := fun w => by
    rw [hc, hk]; exact implCheck_core s w HS.out
  clear hc hk
  by_cases k1 : kind = 1
  · subst k1
    obtain ⟨B, hB⟩ : ∃ B, B = decide ((1 : Int) = 1 ∧ s.toList = (⟨#[]⟩ : ByteArray).toList ∧ hi = false ∧ t.toList = (⟨#[]⟩ : ByteArray).toList ∧ lo = 0 ∧ up = 0 ∧ n = 0) := ⟨_, rfl⟩
    have hq := ndEq_is 1 s hi t lo up n 1 ⟨#[]⟩ false ⟨#[]⟩ 0 0 0 B hB
    have HB : Hid (B = true ↔ (1 : Int) = 1 ∧ s.toList = (⟨#[]⟩ : ByteArray).toList ∧ hi = false ∧ t.toList = (⟨#[]⟩ : ByteArray).toList ∧ lo = 0 ∧ up = 0 ∧ n = 0) := by rw [hB]; show decide _ = true ↔ _; simp only [decide_eq_true_eq]
    clear hB
    have HF : Hid (B = true ↔ GoodN ⟨1, s, hi, t, lo, up, n⟩) := by
      show B = true ↔ GoodN _
      have hB := HB.out
      have hG := HG.out
      have hE := emptyL
      try simp only [hE] at hB
      rw [hB]
      simp [GoodN]
      constructor
      · rintro ⟨q1, q2, q3, q4, q5, q6⟩
        simp_all
      · rintro ⟨q1, q2, q3, q4⟩
        simp_all
    go_wp2_with fail
    go_ret
    exact ⟨_, rfl, HF.out, HW0.out.2⟩
  by_cases k2 : kind = 2
  · subst k2
    obtain ⟨B, hB⟩ : ∃ B, B = decide ((2 : Int) = 2 ∧ s.toList = (⟨#[]⟩ : ByteArray).toList ∧ hi = false ∧ t.toList = (⟨#[]⟩ : ByteArray).toList ∧ lo = 0 ∧ up = 0 ∧ n = 0) := ⟨_, rfl⟩
    have hq := ndEq_is 2 s hi t lo up n 2 ⟨#[]⟩ false ⟨#[]⟩ 0 0 0 B hB
    have HB : Hid (B = true ↔ (2 : Int) = 2 ∧ s.toList = (⟨#[]⟩ : ByteArray).toList ∧ hi = false ∧ t.toList = (⟨#[]⟩ : ByteArray).toList ∧ lo = 0 ∧ up = 0 ∧ n = 0) := by rw [hB]; show decide _ = true ↔ _; simp only [decide_eq_true_eq]
    clear hB
    have HF : Hid (B = true ↔ GoodN ⟨2, s, hi, t, lo, up, n⟩) := by
      show B = true ↔ GoodN _
      have hB := HB.out
      have hG := HG.out
      have hE := emptyL
      try simp only [hE] at hB
      rw [hB]
      simp [GoodN]
      constructor
      · rintro ⟨q1, q2, q3, q4, q5, q6⟩
        simp_all
      · rintro ⟨q1, q2, q3, q4⟩
        simp_all
    go_wp2_with fail
    go_ret
    exact ⟨_, rfl, HF.out, HW0.out.2⟩
  by_cases k3 : kind = 3
  · subst k3
    obtain ⟨B, hB⟩ : ∃ B, B = decide ((3 : Int) = 3 ∧ s.toList = (⟨#[]⟩ : ByteArray).toList ∧ hi = false ∧ t.toList = (⟨#[]⟩ : ByteArray).toList ∧ lo = 0 ∧ up = 0 ∧ n = 0) := ⟨_, rfl⟩
    have hq := ndEq_is 3 s hi t lo up n 3 ⟨#[]⟩ false ⟨#[]⟩ 0 0 0 B hB
    have HB : Hid (B = true ↔ (3 : Int) = 3 ∧ s.toList = (⟨#[]⟩ : ByteArray).toList ∧ hi = false ∧ t.toList = (⟨#[]⟩ : ByteArray).toList ∧ lo = 0 ∧ up = 0 ∧ n = 0) := by rw [hB]; show decide _ = true ↔ _; simp only [decide_eq_true_eq]
    clear hB
    have HF : Hid (B = true ↔ GoodN ⟨3, s, hi, t, lo, up, n⟩) := by
      show B = true ↔ GoodN _
      have hB := HB.out
      have hG := HG.out
      have hE := emptyL
      try simp only [hE] at hB
      rw [hB]
      simp [GoodN]
      constructor
      · rintro ⟨q1, q2, q3, q4, q5, q6⟩
        simp_all
      · rintro ⟨q1, q2, q3, q4⟩
        simp_all
    go_wp2_with fail
    go_ret
    exact ⟨_, rfl, HF.out, HW0.out.2⟩
  by_cases k14 : kind = 14
  · subst k14
    obtain ⟨B, hB⟩ : ∃ B, B = decide ((14 : Int) = 14 ∧ s.toList = (⟨#[]⟩ : ByteArray).toList ∧ hi = false ∧ t.toList = (⟨#[]⟩ : ByteArray).toList ∧ lo = 0 ∧ up = 0 ∧ n = 0) := ⟨_, rfl⟩
    have hq := ndEq_is 14 s hi t lo up n 14 ⟨#[]⟩ false ⟨#[]⟩ 0 0 0 B hB
    have HB : Hid (B = true ↔ (14 : Int) = 14 ∧ s.toList = (⟨#[]⟩ : ByteArray).toList ∧ hi = false ∧ t.toList = (⟨#[]⟩ : ByteArray).toList ∧ lo = 0 ∧ up = 0 ∧ n = 0) := by rw [hB]; show decide _ = true ↔ _; simp only [decide_eq_true_eq]
    clear hB
    have HF : Hid (B = true ↔ GoodN ⟨14, s, hi, t, lo, up, n⟩) := by
      show B = true ↔ GoodN _
      have hB := HB.out
      have hG := HG.out
      have hE := emptyL
      try simp only [hE] at hB
      rw [hB]
      simp [GoodN]
      constructor
      · rintro ⟨q1, q2, q3, q4, q5, q6⟩
        simp_all
      · rintro ⟨q1, q2, q3, q4⟩
        simp_all
    go_wp2_with fail
    go_ret
    exact ⟨_, rfl, HF.out, HW0.out.2⟩
  by_cases k15 : kind = 15
  · subst k15
    obtain ⟨B, hB⟩ : ∃ B, B = decide ((15 : Int) = 15 ∧ s.toList = (⟨#[]⟩ : ByteArray).toList ∧ hi = false ∧ t.toList = (⟨#[]⟩ : ByteArray).toList ∧ lo = 0 ∧ up = 0 ∧ n = 0) := ⟨_, rfl⟩
    have hq := ndEq_is 15 s hi t lo up n 15 ⟨#[]⟩ false ⟨#[]⟩ 0 0 0 B hB
    have HB : Hid (B = true ↔ (15 : Int) = 15 ∧ s.toList = (⟨#[]⟩ : ByteArray).toList ∧ hi = false ∧ t.toList = (⟨#[]⟩ : ByteArray).toList ∧ lo = 0 ∧ up = 0 ∧ n = 0) := by rw [hB]; show decide _ = true ↔ _; simp only [decide_eq_true_eq]
    clear hB
    have HF : Hid (B = true ↔ GoodN ⟨15, s, hi, t, lo, up, n⟩) := by
      show B = true ↔ GoodN _
      have hB := HB.out
      have hG := HG.out
      have hE := emptyL
      try simp only [hE] at hB
      rw [hB]
      simp [GoodN]
      constructor
      · rintro ⟨q1, q2, q3, q4, q5, q6⟩
        simp_all
      · rintro ⟨q1, q2, q3, q4⟩
        simp_all
    go_wp2_with fail
    go_ret
    exact ⟨_, rfl, HF.out, HW0.out.2⟩
  by_cases k16 : kind = 16
  · subst k16
    obtain ⟨B, hB⟩ : ∃ B, B = decide ((16 : Int) = 16 ∧ s.toList = (⟨#[]⟩ : ByteArray).toList ∧ hi = false ∧ t.toList = (⟨#[]⟩ : ByteArray).toList ∧ lo = 0 ∧ up = 0 ∧ n = 0) := ⟨_, rfl⟩
    have hq := ndEq_is 16 s hi t lo up n 16 ⟨#[]⟩ false ⟨#[]⟩ 0 0 0 B hB
    have HB : Hid (B = true ↔ (16 : Int) = 16 ∧ s.toList = (⟨#[]⟩ : ByteArray).toList ∧ hi = false ∧ t.toList = (⟨#[]⟩ : ByteArray).toList ∧ lo = 0 ∧ up = 0 ∧ n = 0) := by rw [hB]; show decide _ = true ↔ _; simp only [decide_eq_true_eq]
    clear hB
    have HF : Hid (B = true ↔ GoodN ⟨16, s, hi, t, lo, up, n⟩) := by
      show B = true ↔ GoodN _
      have hB := HB.out
      have hG := HG.out
      have hE := emptyL
      try simp only [hE] at hB
      rw [hB]
      simp [GoodN]
      constructor
      · rintro ⟨q1, q2, q3, q4, q5, q6⟩
        simp_all
      · rintro ⟨q1, q2, q3, q4⟩
        simp_all
    go_wp2_with fail
    go_ret
    exact ⟨_, rfl, HF.out, HW0.out.2⟩
  by_cases k4 : kind = 4
  · subst k4
    obtain ⟨B, hB⟩ : ∃ B, B = decide ((4 : Int) = 4 ∧ s.toList = s.toList ∧ hi = false ∧ t.toList = (⟨#[]⟩ : ByteArray).toList ∧ lo = 0 ∧ up = 0 ∧ n = 0) := ⟨_, rfl⟩
    have hq := ndEq_is 4 s hi t lo up n 4 s false ⟨#[]⟩ 0 0 0 B hB
    have HB : Hid (B = true ↔ (4 : Int) = 4 ∧ s.toList = s.toList ∧ hi = false ∧ t.toList = (⟨#[]⟩ : ByteArray).toList ∧ lo = 0 ∧ up = 0 ∧ n = 0) := by rw [hB]; show decide _ = true ↔ _; simp only [decide_eq_true_eq]
    clear hB
    cases B
    · have HF : Hid (¬ GoodN ⟨4, s, hi, t, lo, up, n⟩) := by
        show ¬ GoodN _
        have hB := HB.out
        have hE := emptyL
        try simp only [hE] at hB
        intro q
        simp [GoodN] at q hB
        simp_all
      go_wp2_with fail
      go_ret
      exact ⟨_, rfl, by simp [HF.out], HW0.out.2⟩
    · have HF : Hid (GoodN ⟨4, s, hi, t, lo, up, n⟩ ↔ c = 0) := by
        show GoodN _ ↔ _
        have hB := HB.out
        have hG := HG.out
        have hE := emptyL
        try simp only [hE] at hB
        rw [HV.out]
        simp at hB
        simp [GoodN]
        simp_all
      have hfd := regField c k
      go_wp2_with fail
      refine (HC.out _).mono ?_
      rintro r w2 ⟨rfl, hb2⟩
      clear c0 c1 c2 c3 c4 c5 c6
      go_wp2_with fail
      go_ret
      exact ⟨_, rfl, by rw [HF.out]; simp, HW0.out.2.trans (hb2.mono hbw)⟩
  by_cases k5 : kind = 5
  · subst k5
    obtain ⟨B, hB⟩ : ∃ B, B = decide ((5 : Int) = 5 ∧ s.toList = s.toList ∧ hi = false ∧ t.toList = (⟨#[]⟩ : ByteArray).toList ∧ lo = 0 ∧ up = 0 ∧ n = 0) := ⟨_, rfl⟩
    have hq := ndEq_is 5 s hi t lo up n 5 s false ⟨#[]⟩ 0 0 0 B hB
    have HB : Hid (B = true ↔ (5 : Int) = 5 ∧ s.toList = s.toList ∧ hi = false ∧ t.toList = (⟨#[]⟩ : ByteArray).toList ∧ lo = 0 ∧ up = 0 ∧ n = 0) := by rw [hB]; show decide _ = true ↔ _; simp only [decide_eq_true_eq]
    clear hB
    cases B
    · have HF : Hid (¬ GoodN ⟨5, s, hi, t, lo, up, n⟩) := by
        show ¬ GoodN _
        have hB := HB.out
        have hE := emptyL
        try simp only [hE] at hB
        intro q
        simp [GoodN] at q hB
        simp_all
      go_wp2_with fail
      go_ret
      exact ⟨_, rfl, by simp [HF.out], HW0.out.2⟩
    · have HF : Hid (GoodN ⟨5, s, hi, t, lo, up, n⟩ ↔ c = 0) := by
        show GoodN _ ↔ _
        have hB := HB.out
        have hG := HG.out
        have hE := emptyL
        try simp only [hE] at hB
        rw [HV.out]
        simp at hB
        simp [GoodN]
        simp_all
      have hfd := regField c k
      go_wp2_with fail
      refine (HC.out _).mono ?_
      rintro r w2 ⟨rfl, hb2⟩
      clear c0 c1 c2 c3 c4 c5 c6
      go_wp2_with fail
      go_ret
      exact ⟨_, rfl, by rw [HF.out]; simp, HW0.out.2.trans (hb2.mono hbw)⟩
  by_cases k6 : kind = 6
  · subst k6
    obtain ⟨B, hB⟩ : ∃ B, B = decide ((6 : Int) = 6 ∧ s.toList = s.toList ∧ hi = false ∧ t.toList = (⟨#[]⟩ : ByteArray).toList ∧ lo = 0 ∧ up = 0 ∧ n = 0) := ⟨_, rfl⟩
    have hq := ndEq_is 6 s hi t lo up n 6 s false ⟨#[]⟩ 0 0 0 B hB
    have HB : Hid (B = true ↔ (6 : Int) = 6 ∧ s.toList = s.toList ∧ hi = false ∧ t.toList = (⟨#[]⟩ : ByteArray).toList ∧ lo = 0 ∧ up = 0 ∧ n = 0) := by rw [hB]; show decide _ = true ↔ _; simp only [decide_eq_true_eq]
    clear hB
    cases B
    · have HF : Hid (¬ GoodN ⟨6, s, hi, t, lo, up, n⟩) := by
        show ¬ GoodN _
        have hB := HB.out
        have hE := emptyL
        try simp only [hE] at hB
        intro q
        simp [GoodN] at q hB
        simp_all
      go_wp2_with fail
      go_ret
      exact ⟨_, rfl, by simp [HF.out], HW0.out.2⟩
    · have HF : Hid (GoodN ⟨6, s, hi, t, lo, up, n⟩ ↔ c = 0) := by
        show GoodN _ ↔ _
        have hB := HB.out
        have hG := HG.out
        have hE := emptyL
        try simp only [hE] at hB
        rw [HV.out]
        simp at hB
        simp [GoodN]
        simp_all
      have hfd := regField c k
      go_wp2_with fail
      refine (HC.out _).mono ?_
      rintro r w2 ⟨rfl, hb2⟩
      clear c0 c1 c2 c3 c4 c5 c6
      go_wp2_with fail
      go_ret
      exact ⟨_, rfl, by rw [HF.out]; simp, HW0.out.2.trans (hb2.mono hbw)⟩
  by_cases k7 : kind = 7
  · subst k7
    obtain ⟨B, hB⟩ : ∃ B, B = decide ((7 : Int) = 7 ∧ s.toList = s.toList ∧ hi = false ∧ t.toList = (⟨#[]⟩ : ByteArray).toList ∧ lo = 0 ∧ up = 0 ∧ n = 0) := ⟨_, rfl⟩
    have hq := ndEq_is 7 s hi t lo up n 7 s false ⟨#[]⟩ 0 0 0 B hB
    have HB : Hid (B = true ↔ (7 : Int) = 7 ∧ s.toList = s.toList ∧ hi = false ∧ t.toList = (⟨#[]⟩ : ByteArray).toList ∧ lo = 0 ∧ up = 0 ∧ n = 0) := by rw [hB]; show decide _ = true ↔ _; simp only [decide_eq_true_eq]
    clear hB
    cases B
    · have HF : Hid (¬ GoodN ⟨7, s, hi, t, lo, up, n⟩) := by
        show ¬ GoodN _
        have hB := HB.out
        have hE := emptyL
        try simp only [hE] at hB
        intro q
        simp [GoodN] at q hB
        simp_all
      go_wp2_with fail
      go_ret
      exact ⟨_, rfl, by simp [HF.out], HW0.out.2⟩
    · have HF : Hid (GoodN ⟨7, s, hi, t, lo, up, n⟩ ↔ c = 0) := by
        show GoodN _ ↔ _
        have hB := HB.out
        have hG := HG.out
        have hE := emptyL
        try simp only [hE] at hB
        rw [HV.out]
        simp at hB
        simp [GoodN]
        simp_all
      have hfd := regField c k
      go_wp2_with fail
      refine (HC.out _).mono ?_
      rintro r w2 ⟨rfl, hb2⟩
      clear c0 c1 c2 c3 c4 c5 c6
      go_wp2_with fail
      go_ret
      exact ⟨_, rfl, by rw [HF.out]; simp, HW0.out.2.trans (hb2.mono hbw)⟩
  by_cases k8 : kind = 8
  · subst k8
    obtain ⟨B, hB⟩ : ∃ B, B = decide ((8 : Int) = 8 ∧ s.toList = s.toList ∧ hi = hi ∧ t.toList = t.toList ∧ lo = 0 ∧ up = 0 ∧ n = 0) := ⟨_, rfl⟩
    have hq := ndEq_is 8 s hi t lo up n 8 s hi t 0 0 0 B hB
    have HB : Hid (B = true ↔ (8 : Int) = 8 ∧ s.toList = s.toList ∧ hi = hi ∧ t.toList = t.toList ∧ lo = 0 ∧ up = 0 ∧ n = 0) := by rw [hB]; show decide _ = true ↔ _; simp only [decide_eq_true_eq]
    clear hB
    cases B
    · have HF : Hid (¬ GoodN ⟨8, s, hi, t, lo, up, n⟩) := by
        show ¬ GoodN _
        have hB := HB.out
        have hE := emptyL
        try simp only [hE] at hB
        intro q
        simp [GoodN] at q hB
        simp_all
      go_wp2_with fail
      go_ret
      exact ⟨_, rfl, by simp [HF.out], HW0.out.2⟩
    · go_wp2_with fail
      refine (ends_core ⟨8, s, hi, t, lo, up, n⟩ _).mono ?_
      rintro r w2 ⟨b, rfl, hb, hb2⟩
      have HF : Hid (b = true ↔ GoodN ⟨8, s, hi, t, lo, up, n⟩) := by
        show b = true ↔ GoodN _
        have hB := HB.out
        have hG := HG.out
        have hE := emptyL
        have hL := lessL
        try simp only [hE] at hB
        simp at hB
        rw [hb]
        simp [GoodN]
        cases hi <;> simp_all [less]
      clear hb c0 c1 c2 c3 c4 c5 c6
      go_wp2_with fail
      go_ret
      exact ⟨_, rfl, HF.out, HW0.out.2.trans (hb2.mono hbw)⟩
  by_cases k9 : kind = 9
  · subst k9
    obtain ⟨B, hB⟩ : ∃ B, B = decide ((9 : Int) = 9 ∧ s.toList = s.toList ∧ hi = hi ∧ t.toList = t.toList ∧ lo = 0 ∧ up = 0 ∧ n = 0) := ⟨_, rfl⟩
    have hq := ndEq_is 9 s hi t lo up n 9 s hi t 0 0 0 B hB
    have HB : Hid (B = true ↔ (9 : Int) = 9 ∧ s.toList = s.toList ∧ hi = hi ∧ t.toList = t.toList ∧ lo = 0 ∧ up = 0 ∧ n = 0) := by rw [hB]; show decide _ = true ↔ _; simp only [decide_eq_true_eq]
    clear hB
    cases B
    · have HF : Hid (¬ GoodN ⟨9, s, hi, t, lo, up, n⟩) := by
        show ¬ GoodN _
        have hB := HB.out
        have hE := emptyL
        try simp only [hE] at hB
        intro q
        simp [GoodN] at q hB
        simp_all
      go_wp2_with fail
      go_ret
      exact ⟨_, rfl, by simp [HF.out], HW0.out.2⟩
    · go_wp2_with fail
      refine (ends_core ⟨9, s, hi, t, lo, up, n⟩ _).mono ?_
      rintro r w2 ⟨b, rfl, hb, hb2⟩
      have HF : Hid (b = true ↔ GoodN ⟨9, s, hi, t, lo, up, n⟩) := by
        show b = true ↔ GoodN _
        have hB := HB.out
        have hG := HG.out
        have hE := emptyL
        have hL := lessL
        try simp only [hE] at hB
        simp at hB
        rw [hb]
        simp [GoodN]
        cases hi <;> simp_all [less]
      clear hb c0 c1 c2 c3 c4 c5 c6
      go_wp2_with fail
      go_ret
      exact ⟨_, rfl, HF.out, HW0.out.2.trans (hb2.mono hbw)⟩
  by_cases k10 : kind = 10
  · subst k10
    obtain ⟨B, hB⟩ : ∃ B, B = decide ((10 : Int) = 10 ∧ s.toList = (⟨#[]⟩ : ByteArray).toList ∧ hi = hi ∧ t.toList = (⟨#[]⟩ : ByteArray).toList ∧ lo = lo ∧ up = up ∧ n = 0) := ⟨_, rfl⟩
    have hq := ndEq_is 10 s hi t lo up n 10 ⟨#[]⟩ hi ⟨#[]⟩ lo up 0 B hB
    have HB : Hid (B = true ↔ (10 : Int) = 10 ∧ s.toList = (⟨#[]⟩ : ByteArray).toList ∧ hi = hi ∧ t.toList = (⟨#[]⟩ : ByteArray).toList ∧ lo = lo ∧ up = up ∧ n = 0) := by rw [hB]; show decide _ = true ↔ _; simp only [decide_eq_true_eq]
    clear hB
    cases B
    · have HF : Hid (¬ GoodN ⟨10, s, hi, t, lo, up, n⟩) := by
        show ¬ GoodN _
        have hB := HB.out
        have hE := emptyL
        try simp only [hE] at hB
        intro q
        simp [GoodN] at q hB
        simp_all
      go_wp2_with fail
      go_ret
      exact ⟨_, rfl, by simp [HF.out], HW0.out.2⟩
    · go_wp2_with fail
      refine (ends_core ⟨10, s, hi, t, lo, up, n⟩ _).mono ?_
      rintro r w2 ⟨b, rfl, hb, hb2⟩
      have HF : Hid (b = true ↔ GoodN ⟨10, s, hi, t, lo, up, n⟩) := by
        show b = true ↔ GoodN _
        have hB := HB.out
        have hG := HG.out
        have hE := emptyL
        have hL := lessL
        try simp only [hE] at hB
        simp at hB
        rw [hb]
        simp [GoodN]
        cases hi <;> simp_all [less]
      clear hb c0 c1 c2 c3 c4 c5 c6
      go_wp2_with fail
      go_ret
      exact ⟨_, rfl, HF.out, HW0.out.2.trans (hb2.mono hbw)⟩
  by_cases k11 : kind = 11
  · subst k11
    obtain ⟨B, hB⟩ : ∃ B, B = decide ((11 : Int) = 11 ∧ s.toList = (⟨#[]⟩ : ByteArray).toList ∧ hi = false ∧ t.toList = (⟨#[]⟩ : ByteArray).toList ∧ lo = 0 ∧ up = 0 ∧ n = n) := ⟨_, rfl⟩
    have hq := ndEq_is 11 s hi t lo up n 11 ⟨#[]⟩ false ⟨#[]⟩ 0 0 n B hB
    have HB : Hid (B = true ↔ (11 : Int) = 11 ∧ s.toList = (⟨#[]⟩ : ByteArray).toList ∧ hi = false ∧ t.toList = (⟨#[]⟩ : ByteArray).toList ∧ lo = 0 ∧ up = 0 ∧ n = n) := by rw [hB]; show decide _ = true ↔ _; simp only [decide_eq_true_eq]
    clear hB
    cases B
    · have HF : Hid (¬ GoodN ⟨11, s, hi, t, lo, up, n⟩) := by
        show ¬ GoodN _
        have hB := HB.out
        have hE := emptyL
        try simp only [hE] at hB
        intro q
        simp [GoodN] at q hB
        simp_all
      go_wp2_with fail
      go_ret
      exact ⟨_, rfl, by simp [HF.out], HW0.out.2⟩
    · have HF : Hid (GoodN ⟨11, s, hi, t, lo, up, n⟩ ↔ (1 ≤ n ∧ n ≤ 1000)) := by
        show GoodN _ ↔ _
        have hB := HB.out
        have hG := HG.out
        have hE := emptyL
        try simp only [hE] at hB
        simp at hB
        simp [GoodN]
        simp_all
      by_cases h1 : 1 ≤ n
      · go_wp2_with fail
        go_ret
        exact ⟨_, rfl, by rw [HF.out]; simp; omega, HW0.out.2⟩
      · go_wp2_with fail
        go_ret
        exact ⟨_, rfl, by rw [HF.out]; simp; omega, HW0.out.2⟩
  by_cases k12 : kind = 12
  · subst k12
    obtain ⟨B, hB⟩ : ∃ B, B = decide ((12 : Int) = 12 ∧ s.toList = (⟨#[]⟩ : ByteArray).toList ∧ hi = false ∧ t.toList = (⟨#[]⟩ : ByteArray).toList ∧ lo = 0 ∧ up = 0 ∧ n = n) := ⟨_, rfl⟩
    have hq := ndEq_is 12 s hi t lo up n 12 ⟨#[]⟩ false ⟨#[]⟩ 0 0 n B hB
    have HB : Hid (B = true ↔ (12 : Int) = 12 ∧ s.toList = (⟨#[]⟩ : ByteArray).toList ∧ hi = false ∧ t.toList = (⟨#[]⟩ : ByteArray).toList ∧ lo = 0 ∧ up = 0 ∧ n = n) := by rw [hB]; show decide _ = true ↔ _; simp only [decide_eq_true_eq]
    clear hB
    cases B
    · have HF : Hid (¬ GoodN ⟨12, s, hi, t, lo, up, n⟩) := by
        show ¬ GoodN _
        have hB := HB.out
        have hE := emptyL
        try simp only [hE] at hB
        intro q
        simp [GoodN] at q hB
        simp_all
      go_wp2_with fail
      go_ret
      exact ⟨_, rfl, by simp [HF.out], HW0.out.2⟩
    · have HF : Hid (GoodN ⟨12, s, hi, t, lo, up, n⟩ ↔ (1 ≤ n ∧ n ≤ 1000)) := by
        show GoodN _ ↔ _
        have hB := HB.out
        have hG := HG.out
        have hE := emptyL
        try simp only [hE] at hB
        simp at hB
        simp [GoodN]
        simp_all
      by_cases h1 : 1 ≤ n
      · go_wp2_with fail
        go_ret
        exact ⟨_, rfl, by rw [HF.out]; simp; omega, HW0.out.2⟩
      · go_wp2_with fail
        go_ret
        exact ⟨_, rfl, by rw [HF.out]; simp; omega, HW0.out.2⟩
  by_cases k13 : kind = 13
  · subst k13
    obtain ⟨B, hB⟩ : ∃ B, B = decide ((13 : Int) = 13 ∧ s.toList = (⟨#[]⟩ : ByteArray).toList ∧ hi = false ∧ t.toList = (⟨#[]⟩ : ByteArray).toList ∧ lo = 0 ∧ up = 0 ∧ n = n) := ⟨_, rfl⟩
    have hq := ndEq_is 13 s hi t lo up n 13 ⟨#[]⟩ false ⟨#[]⟩ 0 0 n B hB
    have HB : Hid (B = true ↔ (13 : Int) = 13 ∧ s.toList = (⟨#[]⟩ : ByteArray).toList ∧ hi = false ∧ t.toList = (⟨#[]⟩ : ByteArray).toList ∧ lo = 0 ∧ up = 0 ∧ n = n) := by rw [hB]; show decide _ = true ↔ _; simp only [decide_eq_true_eq]
    clear hB
    cases B
    · have HF : Hid (¬ GoodN ⟨13, s, hi, t, lo, up, n⟩) := by
        show ¬ GoodN _
        have hB := HB.out
        have hE := emptyL
        try simp only [hE] at hB
        intro q
        simp [GoodN] at q hB
        simp_all
      go_wp2_with fail
      go_ret
      exact ⟨_, rfl, by simp [HF.out], HW0.out.2⟩
    · have HF : Hid (GoodN ⟨13, s, hi, t, lo, up, n⟩ ↔ (1 ≤ n ∧ n ≤ 1000)) := by
        show GoodN _ ↔ _
        have hB := HB.out
        have hG := HG.out
        have hE := emptyL
        try simp only [hE] at hB
        simp at hB
        simp [GoodN]
        simp_all
      by_cases h1 : 1 ≤ n
      · go_wp2_with fail
        go_ret
        exact ⟨_, rfl, by rw [HF.out]; simp; omega, HW0.out.2⟩
      · go_wp2_with fail
        go_ret
        exact ⟨_, rfl, by rw [HF.out]; simp; omega, HW0.out.2⟩
  have HF : Hid (¬ GoodN ⟨kind, s, hi, t, lo, up, n⟩) := by
    show ¬ GoodN _
    simp only [GoodN]
    rintro ⟨_, _, _, q⟩
    omega
  go_wp2_with fail
  go_ret
  exact ⟨_, rfl, by simp [HF.out], HW0.out.2⟩
end Go.Proofs.Ythkmecppjhcidac
