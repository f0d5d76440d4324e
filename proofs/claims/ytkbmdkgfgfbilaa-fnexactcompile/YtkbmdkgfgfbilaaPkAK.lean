import Derived.Deep.RegionLaw
import Derived.Test.YtkbmdkgfgfbilaaPkAD
import Derived.Test.YtkbmdkgfgfbilaaPkAE
import Derived.Test.YtkbmdkgfgfbilaaPkAJ
import Derived.Test.YtkbmdkgfgfbilaaPkAI
/-
  impl.validNode.
-/
namespace Go.Proofs.Ytkbmdkgfgfbilaa
open Go.ChangeShapes Go.WideShapes Go.ChangeAt Go.RowKit Go.Deep
set_option linter.unusedVariables false
set_option linter.unusedSimpArgs false
set_option maxRecDepth 100000

theorem emptyL : (⟨#[]⟩ : ByteArray).toList = [] := by first | (simp; done) | (kernel_rfl; done) | (go_simp; done)
theorem lessL : Op.bytesLess [] [] = false := by first | (kernel_rfl; done) | (decide; done) | (simp [Op.bytesLess]; done)
theorem ndEq_is (k : Int) (s : ByteArray) (h : Bool) (t : ByteArray) (l u n k' : Int) (s' : ByteArray) (h' : Bool) (t' : ByteArray) (l' u' n' : Int) (B : Bool) (hB : B = decide (k = k' ∧ s.toList = s'.toList ∧ h = h' ∧ t.toList = t'.toList ∧ l = l' ∧ u = u' ∧ n = n')) (wx : World) :
    (binOp .eql 69 (.agg #[.int .i64 k, .string s, .bool h, .string t, .int .u64 l, .int .u64 u, .int .i64 n]) (.agg #[.int .i64 k', .string s', .bool h', .string t', .int .u64 l', .int .u64 u', .int .i64 n'])).run Try.prog wx = .ok (.bool B) wx := by
  rw [hB]; exact ndEq_run k s h t l u n k' s' h' t' l' u' n' wx
set_option maxHeartbeats 8000000 in
theorem validNode_core (e : Nd) (w : World) (hs : e.s.size ≤ maxLen) (ht : e.t.size ≤ maxLen) : Calls Try.prog 64 #[e.v] w (NdPost e w) := by
  obtain ⟨kind, s, hi, t, lo, up, n⟩ := e
  have HS : Hid (s.size ≤ maxLen) := hs
  unfold maxLen at hs ht
  simp only [] at hs ht
  obtain ⟨W0, hW0⟩ : ∃ W0 : World, W0 = w.alloc (Obj.cells #[.int .i64 kind, .string s, .bool hi, .string t, .int .u64 lo, .int .u64 up, .int .i64 n] 69) := ⟨_, rfl⟩
  have HW0 : Hid (BoxAt W0 w.heap.size 69 7 w.heap.size [.int .i64 kind, .string s, .bool hi, .string t, .int .u64 lo, .int .u64 up, .int .i64 n] ∧ Below w.heap.size w W0) := by
    rw [hW0]; exact ⟨boxAt_new w _ (Nat.le_refl _) rfl, (Below.refl _ _).alloc (Nat.le_refl _) _⟩
  have hbw := HW0.out.2.size
  have c0 := HW0.out.1.cell (j := 0) rfl
  have c1 := HW0.out.1.cell (j := 1) rfl
  have c2 := HW0.out.1.cell (j := 2) rfl
  have c3 := HW0.out.1.cell (j := 3) rfl
  have c4 := HW0.out.1.cell (j := 4) rfl
  have c5 := HW0.out.1.cell (j := 5) rfl
  have c6 := HW0.out.1.cell (j := 6) rfl
  go_enter Try.func64, Try.ntmps64
  go_upto_region 1 with fail
  rw [← hW0]
  clear hW0
  by_cases hgood : s.size ≤ 200 ∧ t.size ≤ 200
  case neg =>
    have HG : Hid (¬ GoodN ⟨kind, s, hi, t, lo, up, n⟩) := fun q => hgood ⟨q.1, q.2.1⟩
    by_cases h1 : s.size ≤ 200
    · have z1 : ¬ (200 : Int) < (s.size : Int) := by omega
      have h2 : ¬ t.size ≤ 200 := fun q => hgood ⟨h1, q⟩
      have z2 : (200 : Int) < (t.size : Int) := by omega
      clear hgood
      go_wp2_with fail
      go_ret
      exact ⟨_, rfl, by simp [HG.out], HW0.out.2⟩
    · have z1 : (200 : Int) < (s.size : Int) := by omega
      clear hgood
      go_wp2_with fail
      go_ret
      exact ⟨_, rfl, by simp [HG.out], HW0.out.2⟩
  have HG : Hid (s.size ≤ 200 ∧ t.size ≤ 200) := hgood
  have z1 : ¬ (200 : Int) < (s.size : Int) := by omega
  have z2 : ¬ (200 : Int) < (t.size : Int) := by omega
  clear hgood hs ht
  obtain ⟨c, hc⟩ : ∃ c, c = (checkM (sb s)).1 := ⟨_, rfl⟩
  obtain ⟨k, hk⟩ : ∃ k : Int, k = ((checkM (sb s)).2 : Int) := ⟨_, rfl⟩
  have HV : Hid (c = (checkM (sb s)).1) := hc
  have HC : Hid (∀ w, Calls Try.prog 72 #[.string s] w fun e w' => e = .returned (.agg #[.int .i64 c, .int .i64 k]) ∧ Below w.heap.size w w') := fun w => by
    rw [hc, hk]; exact implCheck_core s w HS.out
  clear hc hk
  by_cases k1 : kind = 1
  · subst k1
    obtain ⟨B, hB⟩ : ∃ B, B = decide ((1 : Int) = 1 ∧ s.toList = (⟨#[]⟩ : ByteArray).toList ∧ hi = false ∧ t.toList = (⟨#[]⟩ : ByteArray).toList ∧ lo = 0 ∧ up = 0 ∧ n = 0) := ⟨_, rfl⟩
    have hq := ndEq_is 1 s hi t lo up n 1 ⟨#[]⟩ false ⟨#[]⟩ 0 0 0 B hB
    have HB : Hid (B = true ↔ (1 : Int) = 1 ∧ s.toList = (⟨#[]⟩ : ByteArray).toList ∧ hi = false ∧ t.toList = (⟨#[]⟩ : ByteArray).toList ∧ lo = 0 ∧ up = 0 ∧ n = 0) := by rw [hB]; show decide _ = true ↔ _; simp only [decide_eq_true_eq]
    clear hB
    have HF : Hid (B = true ↔ GoodN ⟨1, s, hi, t, lo, up, n⟩) := by
      show B = true ↔ GoodN _
      have hB := HB.out
      have hG := HG.out
      have hE := emptyL
      try simp only [hE] at hB
      rw [hB]
      simp [GoodN]
      constructor
      · rintro ⟨q1, q2, q3, q4, q5, q6⟩
        simp_all
      · rintro ⟨q1, q2, q3, q4⟩
        simp_all
    go_wp2_with fail
    go_ret
    exact ⟨_, rfl, HF.out, HW0.out.2⟩
  by_cases k2 : kind = 2
  · subst k2
    obtain ⟨B, hB⟩ : ∃ B, B = decide ((2 : Int) = 2 ∧ s.toList = (⟨#[]⟩ : ByteArray).toList ∧ hi = false ∧ t.toList = (⟨#[]⟩ : ByteArray).toList ∧ lo = 0 ∧ up = 0 ∧ n = 0) := ⟨_, rfl⟩
    have hq := ndEq_is 2 s hi t lo up n 2 ⟨#[]⟩ false ⟨#[]⟩ 0 0 0 B hB
    have HB : Hid (B = true ↔ (2 : Int) = 2 ∧ s.toList = (⟨#[]⟩ : ByteArray).toList ∧ hi = false ∧ t.toList = (⟨#[]⟩ : ByteArray).toList ∧ lo = 0 ∧ up = 0 ∧ n = 0) := by rw [hB]; show decide _ = true ↔ _; simp only [decide_eq_true_eq]
    clear hB
    have HF : Hid (B = true ↔ GoodN ⟨2, s, hi, t, lo, up, n⟩) := by
      show B = true ↔ GoodN _
      have hB := HB.out
      have hG := HG.out
      have hE := emptyL
      try simp only [hE] at hB
      rw [hB]
      simp [GoodN]
      constructor
      · rintro ⟨q1, q2, q3, q4, q5, q6⟩
        simp_all
      · rintro ⟨q1, q2, q3, q4⟩
        simp_all
    go_wp2_with fail
    go_ret
    exact ⟨_, rfl, HF.out, HW0.out.2⟩
  by_cases k3 : kind = 3
  · subst k3
    obtain ⟨B, hB⟩ : ∃ B, B = decide ((3 : Int) = 3 ∧ s.toList = (⟨#[]⟩ : ByteArray).toList ∧ hi = false ∧ t.toList = (⟨#[]⟩ : ByteArray).toList ∧ lo = 0 ∧ up = 0 ∧ n = 0) := ⟨_, rfl⟩
    have hq := ndEq_is 3 s hi t lo up n 3 ⟨#[]⟩ false ⟨#[]⟩ 0 0 0 B hB
    have HB : Hid (B = true ↔ (3 : Int) = 3 ∧ s.toList = (⟨#[]⟩ : ByteArray).toList ∧ hi = false ∧ t.toList = (⟨#[]⟩ : ByteArray).toList ∧ lo = 0 ∧ up = 0 ∧ n = 0) := by rw [hB]; show decide _ = true ↔ _; simp only [decide_eq_true_eq]
    clear hB
    have HF : Hid (B = true ↔ GoodN ⟨3, s, hi, t, lo, up, n⟩) := by
      show B = true ↔ GoodN _
      have hB := HB.out
      have hG := HG.out
      have hE := emptyL
      try simp only [hE] at hB
      rw [hB]
      simp [GoodN]
      constructor
      · rintro ⟨q1, q2, q3, q4, q5, q6⟩
        simp_all
      · rintro ⟨q1, q2, q3, q4⟩
        simp_all
    go_wp2_with fail
    go_ret
    exact ⟨_, rfl, HF.out, HW0.out.2⟩
  by_cases k14 : kind = 14
  · subst k14
    obtain ⟨B, hB⟩ : ∃ B, B = decide ((14 : Int) = 14 ∧ s.toList = (⟨#[]⟩ : ByteArray).toList ∧ hi = false ∧ t.toList = (⟨#[]⟩ : ByteArray).toList ∧ lo = 0 ∧ up = 0 ∧ n = 0) := ⟨_, rfl⟩
    have hq := ndEq_is 14 s hi t lo up n 14 ⟨#[]⟩ false ⟨#[]⟩ 0 0 0 B hB
    have HB : Hid (B = true ↔ (14 : Int) = 14 ∧ s.toList = (⟨#[]⟩ : ByteArray).toList ∧ hi = false ∧ t.toList = (⟨#[]⟩ : ByteArray).toList ∧ lo = 0 ∧ up = 0 ∧ n = 0) := by rw [hB]; show decide _ = true ↔ _; simp only [decide_eq_true_eq]
    clear hB
    have HF : Hid (B = true ↔ GoodN ⟨14, s, hi, t, lo, up, n⟩) := by
      show B = true ↔ GoodN _
      have hB := HB.out
      have hG := HG.out
      have hE := emptyL
      try simp only [hE] at hB
      rw [hB]
      simp [GoodN]
      constructor
      · rintro ⟨q1, q2, q3, q4, q5, q6⟩
        simp_all
      · rintro ⟨q1, q2, q3, q4⟩
        simp_all
    go_wp2_with fail
    go_ret
    exact ⟨_, rfl, HF.out, HW0.out.2⟩
  by_cases k15 : kind = 15
  · subst k15
    obtain ⟨B, hB⟩ : ∃ B, B = decide ((15 : Int) = 15 ∧ s.toList = (⟨#[]⟩ : ByteArray).toList ∧ hi = false ∧ t.toList = (⟨#[]⟩ : ByteArray).toList ∧ lo = 0 ∧ up = 0 ∧ n = 0) := ⟨_, rfl⟩
    have hq := ndEq_is 15 s hi t lo up n 15 ⟨#[]⟩ false ⟨#[]⟩ 0 0 0 B hB
    have HB : Hid (B = true ↔ (15 : Int) = 15 ∧ s.toList = (⟨#[]⟩ : ByteArray).toList ∧ hi = false ∧ t.toList = (⟨#[]⟩ : ByteArray).toList ∧ lo = 0 ∧ up = 0 ∧ n = 0) := by rw [hB]; show decide _ = true ↔ _; simp only [decide_eq_true_eq]
    clear hB
    have HF : Hid (B = true ↔ GoodN ⟨15, s, hi, t, lo, up, n⟩) := by
      show B = true ↔ GoodN _
      have hB := HB.out
      have hG := HG.out
      have hE := emptyL
      try simp only [hE] at hB
      rw [hB]
      simp [GoodN]
      constructor
      · rintro ⟨q1, q2, q3, q4, q5, q6⟩
        simp_all
      · rintro ⟨q1, q2, q3, q4⟩
        simp_all
    go_wp2_with fail
    go_ret
    exact ⟨_, rfl, HF.out, HW0.out.2⟩
  by_cases k16 : kind = 16
  · subst k16
    obtain ⟨B, hB⟩ : ∃ B, B = decide ((16 : Int) = 16 ∧ s.toList = (⟨#[]⟩ : ByteArray).toList ∧ hi = false ∧ t.toList = (⟨#[]⟩ : ByteArray).toList ∧ lo = 0 ∧ up = 0 ∧ n = 0) := ⟨_, rfl⟩
    have hq := ndEq_is 16 s hi t lo up n 16 ⟨#[]⟩ false ⟨#[]⟩ 0 0 0 B hB
    have HB : Hid (B = true ↔ (16 : Int) = 16 ∧ s.toList = (⟨#[]⟩ : ByteArray).toList ∧ hi = false ∧ t.toList = (⟨#[]⟩ : ByteArray).toList ∧ lo = 0 ∧ up = 0 ∧ n = 0) := by rw [hB]; show decide _ = true ↔ _; simp only [decide_eq_true_eq]
    clear hB
    have HF : Hid (B = true ↔ GoodN ⟨16, s, hi, t, lo, up, n⟩) := by
      show B = true ↔ GoodN _
      have hB := HB.out
      have hG := HG.out
      have hE := emptyL
      try simp only [hE] at hB
      rw [hB]
      simp [GoodN]
      constructor
      · rintro ⟨q1, q2, q3, q4, q5, q6⟩
        simp_all
      · rintro ⟨q1, q2, q3, q4⟩
        simp_all
    go_wp2_with fail
    go_ret
    exact ⟨_, rfl, HF.out, HW0.out.2⟩
  by_cases k4 : kind = 4
  · subst k4
    obtain ⟨B, hB⟩ : ∃ B, B = decide ((4 : Int) = 4 ∧ s.toList = s.toList ∧ hi = false ∧ t.toList = (⟨#[]⟩ : ByteArray).toList ∧ lo = 0 ∧ up = 0 ∧ n = 0) := ⟨_, rfl⟩
    have hq := ndEq_is 4 s hi t lo up n 4 s false ⟨#[]⟩ 0 0 0 B hB
    have HB : Hid (B = true ↔ (4 : Int) = 4 ∧ s.toList = s.toList ∧ hi = false ∧ t.toList = (⟨#[]⟩ : ByteArray).toList ∧ lo = 0 ∧ up = 0 ∧ n = 0) := by rw [hB]; show decide _ = true ↔ _; simp only [decide_eq_true_eq]
    clear hB
    cases B
    · have HF : Hid (¬ GoodN ⟨4, s, hi, t, lo, up, n⟩) := by
        show ¬ GoodN _
        have hB := HB.out
        have hE := emptyL
        try simp only [hE] at hB
        intro q
        simp [GoodN] at q hB
        simp_all
      go_wp2_with fail
      go_ret
      exact ⟨_, rfl, by simp [HF.out], HW0.out.2⟩
    · have HF : Hid (GoodN ⟨4, s, hi, t, lo, up, n⟩ ↔ c = 0) := by
        show GoodN _ ↔ _
        have hB := HB.out
        have hG := HG.out
        have hE := emptyL
        try simp only [hE] at hB
        rw [HV.out]
        simp at hB
        simp [GoodN]
        simp_all
      have hfd := regField c k
      go_wp2_with fail
      refine (HC.out _).mono ?_
      rintro r w2 ⟨rfl, hb2⟩
      clear c0 c1 c2 c3 c4 c5 c6
      go_wp2_with fail
      go_ret
      exact ⟨_, rfl, by rw [HF.out]; simp, HW0.out.2.trans (hb2.mono hbw)⟩
  by_cases k5 : kind = 5
  · subst k5
    obtain ⟨B, hB⟩ : ∃ B, B = decide ((5 : Int) = 5 ∧ s.toList = s.toList ∧ hi = false ∧ t.toList = (⟨#[]⟩ : ByteArray).toList ∧ lo = 0 ∧ up = 0 ∧ n = 0) := ⟨_, rfl⟩
    have hq := ndEq_is 5 s hi t lo up n 5 s false ⟨#[]⟩ 0 0 0 B hB
    have HB : Hid (B = true ↔ (5 : Int) = 5 ∧ s.toList = s.toList ∧ hi = false ∧ t.toList = (⟨#[]⟩ : ByteArray).toList ∧ lo = 0 ∧ up = 0 ∧ n = 0) := by rw [hB]; show decide _ = true ↔ _; simp only [decide_eq_true_eq]
    clear hB
    cases B
    · have HF : Hid (¬ GoodN ⟨5, s, hi, t, lo, up, n⟩) := by
        show ¬ GoodN _
        have hB := HB.out
        have hE := emptyL
        try simp only [hE] at hB
        intro q
        simp [GoodN] at q hB
        simp_all
      go_wp2_with fail
      go_ret
      exact ⟨_, rfl, by simp [HF.out], HW0.out.2⟩
    · have HF : Hid (GoodN ⟨5, s, hi, t, lo, up, n⟩ ↔ c = 0) := by
        show GoodN _ ↔ _
        have hB := HB.out
        have hG := HG.out
        have hE := emptyL
        try simp only [hE] at hB
        rw [HV.out]
        simp at hB
        simp [GoodN]
        simp_all
      have hfd := regField c k
      go_wp2_with fail
      refine (HC.out _).mono ?_
      rintro r w2 ⟨rfl, hb2⟩
      clear c0 c1 c2 c3 c4 c5 c6
      go_wp2_with fail
      go_ret
      exact ⟨_, rfl, by rw [HF.out]; simp, HW0.out.2.trans (hb2.mono hbw)⟩
  by_cases k6 : kind = 6
  · subst k6
    obtain ⟨B, hB⟩ : ∃ B, B = decide ((6 : Int) = 6 ∧ s.toList = s.toList ∧ hi = false ∧ t.toList = (⟨#[]⟩ : ByteArray).toList ∧ lo = 0 ∧ up = 0 ∧ n = 0) := ⟨_, rfl⟩
    have hq := ndEq_is 6 s hi t lo up n 6 s false ⟨#[]⟩ 0 0 0 B hB
    have HB : Hid (B = true ↔ (6 : Int) = 6 ∧ s.toList = s.toList ∧ hi = false ∧ t.toList = (⟨#[]⟩ : ByteArray).toList ∧ lo = 0 ∧ up = 0 ∧ n = 0) := by rw [hB]; show decide _ = true ↔ _; simp only [decide_eq_true_eq]
    clear hB
    cases B
    · have HF : Hid (¬ GoodN ⟨6, s, hi, t, lo, up, n⟩) := by
        show ¬ GoodN _
        have hB := HB.out
        have hE := emptyL
        try simp only [hE] at hB
        intro q
        simp [GoodN] at q hB
        simp_all
      go_wp2_with fail
      go_ret
      exact ⟨_, rfl, by simp [HF.out], HW0.out.2⟩
    · have HF : Hid (GoodN ⟨6, s, hi, t, lo, up, n⟩ ↔ c = 0) := by
        show GoodN _ ↔ _
        have hB := HB.out
        have hG := HG.out
        have hE := emptyL
        try simp only [hE] at hB
        rw [HV.out]
        simp at hB
        simp [GoodN]
        simp_all
      have hfd := regField c k
      go_wp2_with fail
      refine (HC.out _).mono ?_
      rintro r w2 ⟨rfl, hb2⟩
      clear c0 c1 c2 c3 c4 c5 c6
      go_wp2_with fail
      go_ret
      exact ⟨_, rfl, by rw [HF.out]; simp, HW0.out.2.trans (hb2.mono hbw)⟩
  by_cases k7 : kind = 7
  · subst k7
    obtain ⟨B, hB⟩ : ∃ B, B = decide ((7 : Int) = 7 ∧ s.toList = s.toList ∧ hi = false ∧ t.toList = (⟨#[]⟩ : ByteArray).toList ∧ lo = 0 ∧ up = 0 ∧ n = 0) := ⟨_, rfl⟩
    have hq := ndEq_is 7 s hi t lo up n 7 s false ⟨#[]⟩ 0 0 0 B hB
    have HB : Hid (B = true ↔ (7 : Int) = 7 ∧ s.toList = s.toList ∧ hi = false ∧ t.toList = (⟨#[]⟩ : ByteArray).toList ∧ lo = 0 ∧ up = 0 ∧ n = 0) := by rw [hB]; show decide _ = true ↔ _; simp only [decide_eq_true_eq]
    clear hB
    cases B
    · have HF : Hid (¬ GoodN ⟨7, s, hi, t, lo, up, n⟩) := by
        show ¬ GoodN _
        have hB := HB.out
        have hE := emptyL
        try simp only [hE] at hB
        intro q
        simp [GoodN] at q hB
        simp_all
      go_wp2_with fail
      go_ret
      exact ⟨_, rfl, by simp [HF.out], HW0.out.2⟩
    · have HF : Hid (GoodN ⟨7, s, hi, t, lo, up, n⟩ ↔ c = 0) := by
        show GoodN _ ↔ _
        have hB := HB.out
        have hG := HG.out
        have hE := emptyL
        try simp only [hE] at hB
        rw [HV.out]
        simp at hB
        simp [GoodN]
        simp_all
      have hfd := regField c k
      go_wp2_with fail
      refine (HC.out _).mono ?_
      rintro r w2 ⟨rfl, hb2⟩
      clear c0 c1 c2 c3 c4 c5 c6
      go_wp2_with fail
      go_ret
      exact ⟨_, rfl, by rw [HF.out]; simp, HW0.out.2.trans (hb2.mono hbw)⟩
  by_cases k8 : kind = 8
  · subst k8
    obtain ⟨B, hB⟩ : ∃ B, B = decide ((8 : Int) = 8 ∧ s.toList = s.toList ∧ hi = hi ∧ t.toList = t.toList ∧ lo = 0 ∧ up = 0 ∧ n = 0) := ⟨_, rfl⟩
    have hq := ndEq_is 8 s hi t lo up n 8 s hi t 0 0 0 B hB
    have HB : Hid (B = true ↔ (8 : Int) = 8 ∧ s.toList = s.toList ∧ hi = hi ∧ t.toList = t.toList ∧ lo = 0 ∧ up = 0 ∧ n = 0) := by rw [hB]; show decide _ = true ↔ _; simp only [decide_eq_true_eq]
    clear hB
    cases B
    · have HF : Hid (¬ GoodN ⟨8, s, hi, t, lo, up, n⟩) := by
        show ¬ GoodN _
        have hB := HB.out
        have hE := emptyL
        try simp only [hE] at hB
        intro q
        simp [GoodN] at q hB
        simp_all
      go_wp2_with fail
      go_ret
      exact ⟨_, rfl, by simp [HF.out], HW0.out.2⟩
    · go_wp2_with fail
      refine (ends_core ⟨8, s, hi, t, lo, up, n⟩ _).mono ?_
      rintro r w2 ⟨b, rfl, hb, hb2⟩
      have HF : Hid (b = true ↔ GoodN ⟨8, s, hi, t, lo, up, n⟩) := by
        show b = true ↔ GoodN _
        have hB := HB.out
        have hG := HG.out
        have hE := emptyL
        have hL := lessL
        try simp only [hE] at hB
        simp at hB
        rw [hb]
        simp [GoodN]
        cases hi <;> simp_all [less]
      clear hb c0 c1 c2 c3 c4 c5 c6
      go_wp2_with fail
      go_ret
      exact ⟨_, rfl, HF.out, HW0.out.2.trans (hb2.mono hbw)⟩
  by_cases k9 : kind = 9
  · subst k9
    obtain ⟨B, hB⟩ : ∃ B, B = decide ((9 : Int) = 9 ∧ s.toList = s.toList ∧ hi = hi ∧ t.toList = t.toList ∧ lo = 0 ∧ up = 0 ∧ n = 0) := ⟨_, rfl⟩
    have hq := ndEq_is 9 s hi t lo up n 9 s hi t 0 0 0 B hB
    have HB : Hid (B = true ↔ (9 : Int) = 9 ∧ s.toList = s.toList ∧ hi = hi ∧ t.toList = t.toList ∧ lo = 0 ∧ up = 0 ∧ n = 0) := by rw [hB]; show decide _ = true ↔ _; simp only [decide_eq_true_eq]
    clear hB
    cases B
    · have HF : Hid (¬ GoodN ⟨9, s, hi, t, lo, up, n⟩) := by
        show ¬ GoodN _
        have hB := HB.out
        have hE := emptyL
        try simp only [hE] at hB
        intro q
        simp [GoodN] at q hB
        simp_all
      go_wp2_with fail
      go_ret
      exact ⟨_, rfl, by simp [HF.out], HW0.out.2⟩
    · go_wp2_with fail
      refine (ends_core ⟨9, s, hi, t, lo, up, n⟩ _).mono ?_
      rintro r w2 ⟨b, rfl, hb, hb2⟩
      have HF : Hid (b = true ↔ GoodN ⟨9, s, hi, t, lo, up, n⟩) := by
        show b = true ↔ GoodN _
        have hB := HB.out
        have hG := HG.out
        have hE := emptyL
        have hL := lessL
        try simp only [hE] at hB
        simp at hB
        rw [hb]
        simp [GoodN]
        cases hi <;> simp_all [less]
      clear hb c0 c1 c2 c3 c4 c5 c6
      go_wp2_with fail
      go_ret
      exact ⟨_, rfl, HF.out, HW0.out.2.trans (hb2.mono hbw)⟩
  by_cases k10 : kind = 10
  · subst k10
    obtain ⟨B, hB⟩ : ∃ B, B = decide ((10 : Int) = 10 ∧ s.toList = (⟨#[]⟩ : ByteArray).toList ∧ hi = hi ∧ t.toList = (⟨#[]⟩ : ByteArray).toList ∧ lo = lo ∧ up = up ∧ n = 0) := ⟨_, rfl⟩
    have hq := ndEq_is 10 s hi t lo up n 10 ⟨#[]⟩ hi ⟨#[]⟩ lo up 0 B hB
    have HB : Hid (B = true ↔ (10 : Int) = 10 ∧ s.toList = (⟨#[]⟩ : ByteArray).toList ∧ hi = hi ∧ t.toList = (⟨#[]⟩ : ByteArray).toList ∧ lo = lo ∧ up = up ∧ n = 0) := by rw [hB]; show decide _ = true ↔ _; simp only [decide_eq_true_eq]
    clear hB
    cases B
    · have HF : Hid (¬ GoodN ⟨10, s, hi, t, lo, up, n⟩) := by
        show ¬ GoodN _
        have hB := HB.out
        have hE := emptyL
        try simp only [hE] at hB
        intro q
        simp [GoodN] at q hB
        simp_all
      go_wp2_with fail
      go_ret
      exact ⟨_, rfl, by simp [HF.out], HW0.out.2⟩
    · go_wp2_with fail
      refine (ends_core ⟨10, s, hi, t, lo, up, n⟩ _).mono ?_
      rintro r w2 ⟨b, rfl, hb, hb2⟩
      have HF : Hid (b = true ↔ GoodN ⟨10, s, hi, t, lo, up, n⟩) := by
        show b = true ↔ GoodN _
        have hB := HB.out
        have hG := HG.out
        have hE := emptyL
        have hL := lessL
        try simp only [hE] at hB
        simp at hB
        rw [hb]
        simp [GoodN]
        cases hi <;> simp_all [less]
      clear hb c0 c1 c2 c3 c4 c5 c6
      go_wp2_with fail
      go_ret
      exact ⟨_, rfl, HF.out, HW0.out.2.trans (hb2.mono hbw)⟩
  by_cases k11 : kind = 11
  · subst k11
    obtain ⟨B, hB⟩ : ∃ B, B = decide ((11 : Int) = 11 ∧ s.toList = (⟨#[]⟩ : ByteArray).toList ∧ hi = false ∧ t.toList = (⟨#[]⟩ : ByteArray).toList ∧ lo = 0 ∧ up = 0 ∧ n = n) := ⟨_, rfl⟩
    have hq := ndEq_is 11 s hi t lo up n 11 ⟨#[]⟩ false ⟨#[]⟩ 0 0 n B hB
    have HB : Hid (B = true ↔ (11 : Int) = 11 ∧ s.toList = (⟨#[]⟩ : ByteArray).toList ∧ hi = false ∧ t.toList = (⟨#[]⟩ : ByteArray).toList ∧ lo = 0 ∧ up = 0 ∧ n = n) := by rw [hB]; show decide _ = true ↔ _; simp only [decide_eq_true_eq]
    clear hB
    cases B
    · have HF : Hid (¬ GoodN ⟨11, s, hi, t, lo, up, n⟩) := by
        show ¬ GoodN _
        have hB := HB.out
        have hE := emptyL
        try simp only [hE] at hB
        intro q
        simp [GoodN] at q hB
        simp_all
      go_wp2_with fail
      go_ret
      exact ⟨_, rfl, by simp [HF.out], HW0.out.2⟩
    · have HF : Hid (GoodN ⟨11, s, hi, t, lo, up, n⟩ ↔ (1 ≤ n ∧ n ≤ 1000)) := by
        show GoodN _ ↔ _
        have hB := HB.out
        have hG := HG.out
        have hE := emptyL
        try simp only [hE] at hB
        simp at hB
        simp [GoodN]
        simp_all
      by_cases h1 : 1 ≤ n
      · go_wp2_with fail
        go_ret
        exact ⟨_, rfl, by rw [HF.out]; simp; omega, HW0.out.2⟩
      · go_wp2_with fail
        go_ret
        exact ⟨_, rfl, by rw [HF.out]; simp; omega, HW0.out.2⟩
  by_cases k12 : kind = 12
  · subst k12
    obtain ⟨B, hB⟩ : ∃ B, B = decide ((12 : Int) = 12 ∧ s.toList = (⟨#[]⟩ : ByteArray).toList ∧ hi = false ∧ t.toList = (⟨#[]⟩ : ByteArray).toList ∧ lo = 0 ∧ up = 0 ∧ n = n) := ⟨_, rfl⟩
    have hq := ndEq_is 12 s hi t lo up n 12 ⟨#[]⟩ false ⟨#[]⟩ 0 0 n B hB
    have HB : Hid (B = true ↔ (12 : Int) = 12 ∧ s.toList = (⟨#[]⟩ : ByteArray).toList ∧ hi = false ∧ t.toList = (⟨#[]⟩ : ByteArray).toList ∧ lo = 0 ∧ up = 0 ∧ n = n) := by rw [hB]; show decide _ = true ↔ _; simp only [decide_eq_true_eq]
    clear hB
    cases B
    · have HF : Hid (¬ GoodN ⟨12, s, hi, t, lo, up, n⟩) := by
        show ¬ GoodN _
        have hB := HB.out
        have hE := emptyL
        try simp only [hE] at hB
        intro q
        simp [GoodN] at q hB
        simp_all
      go_wp2_with fail
      go_ret
      exact ⟨_, rfl, by simp [HF.out], HW0.out.2⟩
    · have HF : Hid (GoodN ⟨12, s, hi, t, lo, up, n⟩ ↔ (1 ≤ n ∧ n ≤ 1000)) := by
        show GoodN _ ↔ _
        have hB := HB.out
        have hG := HG.out
        have hE := emptyL
        try simp only [hE] at hB
        simp at hB
        simp [GoodN]
        simp_all
      by_cases h1 : 1 ≤ n
      · go_wp2_with fail
        go_ret
        exact ⟨_, rfl, by rw [HF.out]; simp; omega, HW0.out.2⟩
      · go_wp2_with fail
        go_ret
        exact ⟨_, rfl, by rw [HF.out]; simp; omega, HW0.out.2⟩
  by_cases k13 : kind = 13
  · subst k13
    obtain ⟨B, hB⟩ : ∃ B, B = decide ((13 : Int) = 13 ∧ s.toList = (⟨#[]⟩ : ByteArray).toList ∧ hi = false ∧ t.toList = (⟨#[]⟩ : ByteArray).toList ∧ lo = 0 ∧ up = 0 ∧ n = n) := ⟨_, rfl⟩
    have hq := ndEq_is 13 s hi t lo up n 13 ⟨#[]⟩ false ⟨#[]⟩ 0 0 n B hB
    have HB : Hid (B = true ↔ (13 : Int) = 13 ∧ s.toList = (⟨#[]⟩ : ByteArray).toList ∧ hi = false ∧ t.toList = (⟨#[]⟩ : ByteArray).toList ∧ lo = 0 ∧ up = 0 ∧ n = n) := by rw [hB]; show decide _ = true ↔ _; simp only [decide_eq_true_eq]
    clear hB
    cases B
    · have HF : Hid (¬ GoodN ⟨13, s, hi, t, lo, up, n⟩) := by
        show ¬ GoodN _
        have hB := HB.out
        have hE := emptyL
        try simp only [hE] at hB
        intro q
        simp [GoodN] at q hB
        simp_all
      go_wp2_with fail
      go_ret
      exact ⟨_, rfl, by simp [HF.out], HW0.out.2⟩
    · have HF : Hid (GoodN ⟨13, s, hi, t, lo, up, n⟩ ↔ (1 ≤ n ∧ n ≤ 1000)) := by
        show GoodN _ ↔ _
        have hB := HB.out
        have hG := HG.out
        have hE := emptyL
        try simp only [hE] at hB
        simp at hB
        simp [GoodN]
        simp_all
      by_cases h1 : 1 ≤ n
      · go_wp2_with fail
        go_ret
        exact ⟨_, rfl, by rw [HF.out]; simp; omega, HW0.out.2⟩
      · go_wp2_with fail
        go_ret
        exact ⟨_, rfl, by rw [HF.out]; simp; omega, HW0.out.2⟩
  have HF : Hid (¬ GoodN ⟨kind, s, hi, t, lo, up, n⟩) := by
    show ¬ GoodN _
    simp only [GoodN]
    rintro ⟨_, _, _, q⟩
    omega
  go_wp2_with fail
  go_ret
  exact ⟨_, rfl, by simp [HF.out], HW0.out.2⟩
end Go.Proofs.Ytkbmdkgfgfbilaa

/-
  impl.operandCount, strength, inParens, shapeOf.
-/
namespace Go.Proofs.Ytkbmdkgfgfbilaa
open Go.ChangeShapes Go.WideShapes Go.ChangeAt Go.RowKit Go.Deep
set_option linter.unusedVariables false
set_option linter.unusedSimpArgs false
set_option linter.unnecessarySimpa false
set_option maxRecDepth 100000

set_option maxHeartbeats 1000000 in
theorem operandCount_core (k : Int) (w : World) : Calls Try.prog 48 #[.int .i64 k] w fun e w' => e = .returned (.int .i64 (arity k : Int)) ∧ w' = w := by
  by_cases h14 : k = 14
  · subst h14
    go_enter Try.func48, Try.ntmps48
    go_wp2_with fail
    go_ret
    exact ⟨rfl, rfl⟩
  by_cases h15 : k = 15
  · subst h15
    go_enter Try.func48, Try.ntmps48
    go_wp2_with fail
    go_ret
    exact ⟨rfl, rfl⟩
  by_cases h16 : k = 16
  · subst h16
    go_enter Try.func48, Try.ntmps48
    go_wp2_with fail
    go_ret
    exact ⟨rfl, rfl⟩
  have z14 : (k == 14) = false := by simpa using h14
  have z15 : (k == 15) = false := by simpa using h15
  have z16 : (k == 16) = false := by simpa using h16
  have H : Hid (arity k = 0) := by show arity k = 0; unfold arity; rw [if_neg (by omega), if_neg h16]
  go_enter Try.func48, Try.ntmps48
  go_wp2_with fail
  go_ret
  exact ⟨by rw [H.out]; rfl, rfl⟩
set_option maxHeartbeats 1000000 in
theorem strength_core (k : Int) (w : World) : Calls Try.prog 74 #[.int .i64 k] w fun e w' => e = .returned (.int .i64 (strong k : Int)) ∧ w' = w := by
  by_cases h15 : k = 15
  · subst h15
    go_enter Try.func74, Try.ntmps74
    go_wp2_with fail
    go_ret
    exact ⟨rfl, rfl⟩
  by_cases h14 : k = 14
  · subst h14
    go_enter Try.func74, Try.ntmps74
    go_wp2_with fail
    go_ret
    exact ⟨rfl, rfl⟩
  have z14 : (k == 14) = false := by simpa using h14
  have z15 : (k == 15) = false := by simpa using h15
  have H : Hid (strong k = 3) := by show strong k = 3; unfold strong; rw [if_neg h15, if_neg h14]
  go_enter Try.func74, Try.ntmps74
  go_wp2_with fail
  go_ret
  exact ⟨by rw [H.out]; rfl, rfl⟩
set_option maxHeartbeats 1000000 in
theorem inParens_core (op : Int) (i : Nat) (kid : Int) (w : World) (hop : ¬ op = 16) : Calls Try.prog 65 #[.int .i64 op, .int .i64 (i : Int), .int .i64 kid] w fun e w' => e = .returned (.bool (level op i kid)) ∧ w' = w := by
  by_cases hi : i = 0
  · subst hi
    have HL : Hid (level op 0 kid = decide (strong kid < strong op)) := by
      show level op 0 kid = _
      unfold level; simp [hop]
    clear hop
    go_enter Try.func65, Try.ntmps65
    go_wp2_with (go_at_call 74; refine (strength_core _ _).mono ?_; rintro e' w' ⟨rfl, rfl⟩)
    go_ret
    exact ⟨by rw [HL.out]; rfl, rfl⟩
  · have zi : ((i : Int) == 0) = false := by simpa using hi
    have HL : Hid (level op i kid = decide (strong kid ≤ strong op)) := by
      show level op i kid = _
      unfold level; simp [hop, hi]
    clear hop
    go_enter Try.func65, Try.ntmps65
    go_wp2_with (go_at_call 74; refine (strength_core _ _).mono ?_; rintro e' w' ⟨rfl, rfl⟩)
    go_ret
    exact ⟨by rw [HL.out]; rfl, rfl⟩
abbrev Shape.three (s : Shape) : List Value := [.bool s.valid, .int .i64 s.kind, .int .i64 (s.nest : Int)]
def cellsS (ss : List Shape) : List Value := ss.flatMap Shape.three
theorem length_cellsS (ss : List Shape) : (cellsS ss).length = ss.length * 3 := by
  induction ss with
  | nil => rfl
  | cons e es ih => simp only [cellsS, List.flatMap_cons, List.length_append] at ih ⊢; rw [ih]; simp; omega
theorem cellsS_append (es fs : List Shape) : cellsS (es ++ fs) = cellsS es ++ cellsS fs := by simp [cellsS]
theorem cellsS_get (es : List Shape) : ∀ (k : Nat) (e : Shape), es[k]? = some e → ∀ j, j < 3 → (cellsS es)[k * 3 + j]? = e.three[j]? := by
  induction es with
  | nil => intro k e h; simp at h
  | cons f es ih =>
    intro k e h j hj
    have hc : cellsS (f :: es) = f.three ++ cellsS es := by simp [cellsS]
    rw [hc]
    cases k with
    | zero =>
      simp at h; subst h
      rw [List.getElem?_append_left (by show 0 * 3 + j < 3; omega)]
      simp
    | succ k =>
      simp at h
      rw [List.getElem?_append_right (by show 3 ≤ (k + 1) * 3 + j; omega)]
      have : (k + 1) * 3 + j - f.three.length = k * 3 + j := by show (k + 1) * 3 + j - 3 = _; omega
      rw [this]; exact ih k e h j hj
theorem cellsS_take (es : List Shape) (k : Nat) : cellsS (es.take k) = (cellsS es).take (k * 3) := by
  induction es generalizing k with
  | nil => simp [cellsS]
  | cons f es ih =>
    cases k with
    | zero => simp [cellsS]
    | succ k =>
      have hc : cellsS (f :: es) = f.three ++ cellsS es := by simp [cellsS]
      have hd : cellsS (f :: es.take k) = f.three ++ cellsS (es.take k) := by simp [cellsS]
      have e1 : (k + 1) * 3 = f.three.length + k * 3 := by show (k + 1) * 3 = 3 + k * 3; omega
      rw [List.take_succ_cons, hd, hc, ih, e1, List.take_length_add_append]
/-- Shapes at ⟨b, o⟩. -/
def ShsAt (w : World) (b o : Nat) (ss : List Shape) : Prop := ∀ i s, ss[i]? = some s → w.cell? ⟨b, o + i * 3, none⟩ = some (.bool s.valid) ∧ w.cell? ⟨b, o + i * 3 + 1, none⟩ = some (.int .i64 s.kind) ∧ w.cell? ⟨b, o + i * 3 + 2, none⟩ = some (.int .i64 (s.nest : Int))
theorem ShsAt.below {B : Nat} {w w' : World} {b o : Nat} {ss : List Shape} (h : ShsAt w b o ss) (hb : Below B w w') (hlt : b < B) : ShsAt w' b o ss := by
  intro i e he
  have := h i e he
  refine ⟨?_, ?_, ?_⟩
  all_goals rw [hb.cell (by exact hlt)]
  · exact this.1
  · exact this.2.1
  · exact this.2.2
theorem ShsAt.drop {w : World} {b o : Nat} {ss : List Shape} (h : ShsAt w b o ss) (k : Nat) : ShsAt w b (o + k * 3) (ss.drop k) := by
  intro i s hs
  have := h (k + i) s (by rw [← List.getElem?_drop]; exact hs)
  rw [Nat.add_mul, ← Nat.add_assoc] at this
  exact this
def OwnSh (w : World) (base g cp : Nat) (ss : List Shape) : Prop := w.ownsRow base 82 3 (.slice (some ⟨g, 0, none⟩) ss.length cp) ss.length (cellsS ss)
theorem OwnSh.lt {w : World} {base g cp : Nat} {ss : List Shape} (h : OwnSh w base g cp ss) : base ≤ g ∧ g < w.heap.size := World.ownsRow.lt h g rfl
theorem OwnSh.below {w w' : World} {base g cp : Nat} {ss : List Shape} (h : OwnSh w base g cp ss) (hb : Below w.heap.size w w') : OwnSh w' base g cp ss := own_chg h (Chg.of_below hb) (S := fun _ => False) (fun k q z => z)
theorem OwnSh.at {w : World} {base g cp : Nat} {ss : List Shape} (h : OwnSh w base g cp ss) : ShsAt w g 0 ss := by
  intro i e he
  have hi : i < ss.length := (List.getElem?_eq_some_iff.1 he).1
  have c := fun j (hj : j < 3) => (World.ownsRow.cellAt h (i * 3 + j) (by omega)).trans (cellsS_get ss i e he j hj)
  refine ⟨?_, ?_, ?_⟩
  · simpa using c 0 (by omega)
  · simpa using c 1 (by omega)
  · simpa using c 2 (by omega)
theorem OwnSh.caps {w : World} {base g cp : Nat} {ss : List Shape} (h : OwnSh w base g cp ss) : ss.length ≤ cp ∧ cp ≤ maxLen := by
  rcases h.2 with ⟨h0, _⟩ | ⟨g', cap', cur, hv, _, _, hn, hcap, _, _⟩
  · cases h0
  · simp only [Value.slice.injEq, Option.some.injEq, Addr.mk.injEq, and_true, true_and] at hv
    obtain ⟨rfl, rfl⟩ := hv
    exact ⟨hn, hcap⟩
theorem OwnSh.take {w : World} {base g cp : Nat} {ss : List Shape} (h : OwnSh w base g cp ss) {k : Nat} (hk : k ≤ ss.length) : OwnSh w base g cp (ss.take k) := by
  rcases h.2 with ⟨h0, _⟩ | ⟨g', cap', cur, hv, h1, h2, h3, h4, h5, h6⟩
  · cases h0
  · simp only [Value.slice.injEq, Option.some.injEq, Addr.mk.injEq, and_true, true_and] at hv
    obtain ⟨rfl, rfl⟩ := hv
    have hl : (ss.take k).length = k := by rw [List.length_take]; omega
    refine ⟨by rw [length_cellsS], .inr ⟨g, cp, cur, rfl, h1, h2, by omega, h4, h5, ?_⟩⟩
    rw [hl, cellsS_take, ← h6, List.take_take]
    congr 1
    omega
theorem ownSh_new (w : World) {base : Nat} (hb : base ≤ w.heap.size) : OwnSh (w.alloc (Obj.cells #[] 82)) base w.heap.size 0 [] :=
  World.ownsRow_made w #[] 0 hb (Nat.zero_le _) (by simp)
/-- The state of shapeOf. -/
structure SoJ (w : World) (e : Nd) (WB : Nat) (v : Bool) (a : Nat) (wr : World) : Prop where
  node : BoxAt wr w.heap.size 69 7 w.heap.size e.seven
  res : BoxAt wr w.heap.size 82 3 (w.heap.size + 1) [.bool false, .int .i64 0, .int .i64 0]
  whole : BoxAt wr w.heap.size 82 3 WB [.bool v, .int .i64 e.kind, .int .i64 (a : Int)]
  ne : w.heap.size + 2 ≤ WB
  below : Below w.heap.size w wr
theorem SoJ.move {w : World} {e : Nd} {WB : Nat} {v : Bool} {a : Nat} {wr w' : World} (h : SoJ w e WB v a wr) (hb : Below wr.heap.size wr w') : SoJ w e WB v a w' :=
  ⟨h.node.below hb, h.res.below hb, h.whole.below hb, h.ne, h.below.trans (hb.mono h.below.size)⟩
theorem valid_is (e : Nd) (w : World) (hs : e.s.size ≤ maxLen) (ht : e.t.size ≤ maxLen) : Calls Try.prog 64 #[.agg #[.int .i64 e.kind, .string e.s, .bool e.hi, .string e.t, .int .u64 e.lo, .int .u64 e.up, .int .i64 e.n]] w fun r w' => r = .returned (.bool (goodB e)) ∧ Below w.heap.size w w' := by
  refine (validNode_core e w hs ht).mono ?_
  rintro r w' ⟨b, rfl, hb, hb2⟩
  refine ⟨?_, hb2⟩
  congr 2
  rw [Bool.eq_iff_iff, hb, goodB_iff]
end Go.Proofs.Ytkbmdkgfgfbilaa

/-
  impl.foldTree over codeTreeOf, walked.
-/
namespace Go.Proofs.Ytkbmdkgfgfbilaa
open Go.ChangeShapes Go.WideShapes Go.ChangeAt Go.RowKit Go.Deep
set_option linter.unusedVariables false
set_option linter.unusedSimpArgs false
set_option maxRecDepth 100000

def FcPost (t : CT) (w : World) (r : Ending) (w' : World) : Prop := ∃ p, r = .returned (.tuple #[ptrV p, .bool true]) ∧ TrAt w' t w.heap.size w'.heap.size p none ∧ Below w.heap.size w w'
set_option maxHeartbeats 16000000 in
theorem foldCode_core {w : World} {gN cpN : Nat} {xs : List Nd} {t : CT} (h : NdsAt w gN 0 xs) (hg : gN < w.heap.size) (hT : TreeF xs t) (hl : xs.length ≤ 200) :
    Calls Try.prog 20 #[.slice (some ⟨gN, 0, none⟩) xs.length cpN, .func (Fn.func 21) #[] #[]] w (FcPost t w) := by
  have hF : foldV ctV [] xs = some [t] := by
    have h9 := TrV.fold _ hT []
    simpa using h9
  have HF : Hid (NdsAt w gN 0 xs ∧ foldV ctV [] xs = some [t] ∧ xs.length ≤ 200) := ⟨h, hF, hl⟩
  obtain ⟨n, hn⟩ : ∃ n, n = xs.length := ⟨_, rfl⟩
  have HL : Hid (n = xs.length) := hn
  rw [← hn] at hl ⊢
  clear h hF hT hn
  obtain ⟨W0, hW0⟩ : ∃ W0 : World, W0 = w.alloc (Obj.cells #[] 48) := ⟨_, rfl⟩
  have HW0 : Hid (FcJ w xs 0 w.heap.size 0 [] [] W0) := by
    rw [hW0]
    refine ⟨rfl, World.ownsRow_lit w #[] 0 (Nat.le_refl _) (by decide) (by decide), ?_, (Below.refl _ _).alloc (Nat.le_refl _) _⟩
    show w.heap.size ≤ _
    simp
  go_enter Try.func20, Try.ntmps20
  go_upto_region 2 with fail
  rw [← hW0]
  clear hW0
  go_wp2_with fail
  go_loopw [4, 6, 14] (fun wv sv iv wr => ∃ (j m g cp : Nat) (ps : List Nat) (ts : List CT), wv = .pointer none ∧ iv = .int .i64 (j : Int) ∧ j ≤ n ∧ m = ps.length ∧ m ≤ j ∧ m ≤ cp ∧ sv = .slice (some ⟨g, 0, none⟩) m cp ∧ FcJ w xs j g cp ps ts wr) (fun _ _ iv _ => n - (intOf iv).toNat)
  case atStart => exact ⟨0, 0, _, 0, [], [], rfl, rfl, Nat.zero_le _, rfl, Nat.le_refl _, Nat.zero_le _, rfl, HW0.out⟩
  case round =>
    obtain ⟨j, m, g, cp, ps, ts, rfl, rfl, hj, hm, hmj, hmc, rfl, hJ⟩ := hrel
    have HJ : Hid (m = ps.length ∧ FcJ w xs j g cp ps ts wr) := ⟨hm, hJ⟩
    have hgl := hJ.own.lt
    have hcp : cp ≤ 9223372036854775807 := by have := hJ.own.caps.2; unfold maxLen at this; omega
    have hsz := hJ.below.size
    clear hm hJ HW0
    by_cases hlt : j < n
    · have zj : (j : Int) < (n : Int) := by omega
      obtain ⟨e, he⟩ : ∃ e, xs[j]? = some e := ⟨_, List.getElem?_eq_getElem (by have := HL.out; omega)⟩
      obtain ⟨d0, d1, d2, d3, d4, d5, d6⟩ := (HF.out.1.below HJ.out.2.below hg) j e he
      simp only [Nat.zero_add] at d0 d1 d2 d3 d4 d5 d6
      have HE : Hid (xs[j]? = some e) := he
      clear he
      obtain ⟨W1, hW1⟩ : ∃ W1 : World, W1 = wr.alloc (Obj.cells #[.int .i64 e.kind, .string e.s, .bool e.hi, .string e.t, .int .u64 e.lo, .int .u64 e.up, .int .i64 e.n] 69) := ⟨_, rfl⟩
      have hb1 : Below wr.heap.size wr W1 := by rw [hW1]; exact (Below.refl _ _).alloc (Nat.le_refl _) _
      have hz1 : wr.heap.size < W1.heap.size := by rw [hW1]; simp
      have HJ1 : Hid (m = ps.length ∧ FcJ w xs j g cp ps ts W1 ∧ BoxAt W1 w.heap.size 69 7 wr.heap.size [.int .i64 e.kind, .string e.s, .bool e.hi, .string e.t, .int .u64 e.lo, .int .u64 e.up, .int .i64 e.n]) := by
        refine ⟨HJ.out.1, HJ.out.2.move hb1, ?_⟩
        rw [hW1]; exact boxAt_new wr _ hsz rfl
      go_upto_region 5 with fail
      rw [← hW1]
      clear hW1 d0 d1 d2 d3 d4 d5 d6 HJ hb1
      have c0 := HJ1.out.2.2.cell (j := 0) rfl
      have c1 := HJ1.out.2.2.cell (j := 1) rfl
      have c2 := HJ1.out.2.2.cell (j := 2) rfl
      have c3 := HJ1.out.2.2.cell (j := 3) rfl
      have c4 := HJ1.out.2.2.cell (j := 4) rfl
      have c5 := HJ1.out.2.2.cell (j := 5) rfl
      have c6 := HJ1.out.2.2.cell (j := 6) rfl
      obtain ⟨a, ha⟩ : ∃ a, a = arity e.kind := ⟨_, rfl⟩
      have ha3 : a ≤ 3 := by rw [ha]; exact arity_le _
      have HAr : Hid (Calls Try.prog 48 #[.int .i64 e.kind] W1 fun r w' => r = .returned (.int .i64 (a : Int)) ∧ w' = W1) := by rw [ha]; exact operandCount_core e.kind W1
      have HAk : Hid (a = arity e.kind) := ha
      clear ha
      go_wp2_with fail
      refine HAr.out.mono ?_
      rintro r w9 ⟨rfl, hw9⟩
      rw [hw9]
      clear hw9 HAr
      have hfr : ¬ m < a := fun q => by
        have h1 := foldV_stop ctV HJ1.out.2.1.fold HE.out (by rw [← HJ1.out.2.1.seg.len, ← HJ1.out.1, ← HAk.out]; exact q)
        rw [HF.out.2.1] at h1; cases h1
      obtain ⟨fr, hfrm⟩ : ∃ fr : Nat, (m : Int) - (a : Int) = (fr : Int) := ⟨m - a, by omega⟩
      have hfrle : fr ≤ m := by omega
      have HFr : Hid (fr = ts.length - arity e.kind ∧ arity e.kind ≤ ts.length) := by
        have h1 := HJ1.out.1
        have h2 := HAk.out
        have h3 := HJ1.out.2.1.seg.len
        exact ⟨by omega, by omega⟩
      have zf : ¬ (fr : Int) < 0 := by omega
      have z2 : (fr : Int) ≤ (m : Int) := by omega
      have z3 : (m : Int) ≤ (cp : Int) := by omega
      have HY : Hid (foldV ctV [] (xs.take (j + 1)) = some (ts.take fr ++ [ctV e (ts.drop fr)])) := by
        show _ = _
        rw [HFr.out.1]
        exact foldV_next ctV HJ1.out.2.1.fold HE.out HFr.out.2
      obtain ⟨ad, had⟩ : ∃ ad : Option Addr, (if cp = fr then some (⟨g, 0, none⟩ : Addr) else some ⟨g, fr, none⟩) = ad := ⟨_, rfl⟩
      have HSh : Hid (∀ X, Below W1.heap.size W1 X → Calls Try.prog 21 #[.agg #[.int .i64 e.kind, .string e.s, .bool e.hi, .string e.t, .int .u64 e.lo, .int .u64 e.up, .int .i64 e.n], .slice ad (m - fr) (cp - fr)] X (CtP e (ps.drop fr) X)) := fun X hX => by
        have hJX := HJ1.out.2.1.move hX
        have hlen : m - fr = (ps.drop fr).length := by rw [List.length_drop, ← HJ1.out.1]
        rw [← had]
        by_cases hcf : cp = fr
        · rw [if_pos hcf]
          have hnil : ps.drop fr = [] := List.length_eq_zero_iff.1 (by rw [← hlen]; omega)
          exact codeTreeOf_core e g 0 (m - fr) (cp - fr) (ps.drop fr) X hlen (by rw [← hlen]; omega) hJX.own.lt.2 (by rw [hnil]; intro i u hu; simp at hu)
        · rw [if_neg hcf]
          exact codeTreeOf_core e g fr (m - fr) (cp - fr) (ps.drop fr) X hlen (by rw [← hlen]; omega) hJX.own.lt.2 (by intro i u hu; rw [List.getElem?_drop] at hu; exact hJX.own.cell hu)
      clear hfr
      go_upto_region 8 with fail
      go_cut [10] (fun sv wx => ∃ X p q cq, Hid (Below W1.heap.size W1 X ∧ BoxT wx X.heap.size p e (.slice (some ⟨q, 0, none⟩) (ps.drop fr).length cq) 0 ∧ PRow wx X.heap.size q cq (ps.drop fr) ∧ Below X.heap.size X wx) ∧ sv = ptrV p)
      case first =>
        go_region_law ((go_simp; go_at_call 21; refine (HSh.out _ ?hX).mono ?_; (case hX => (repeat (first | exact Below.refl _ _ | refine Below.drew ?_))); rintro r w' ⟨p7, q7, cq7, rfl, h7, h8, h9⟩))
        all_goals go_wp2_with fail
        all_goals go_meet
        all_goals exact ⟨_, p7, q7, cq7, ⟨(by (repeat (first | exact Below.refl _ _ | refine Below.drew ?_))), h7, h8, h9⟩, rfl⟩
      case rest =>
      obtain ⟨X, p, q, cq, HK, rfl⟩ := hcut
      obtain ⟨w4, hw4⟩ : ∃ w4 : World, w4 = wc := ⟨_, rfl⟩
      subst hw4
      have hb14 : Below W1.heap.size W1 w4 := HK.out.1.trans (HK.out.2.2.2.mono HK.out.1.size)
      have HK2 : Hid (FcJ w xs j g cp ps ts w4) := HJ1.out.2.1.move hb14
      have hgl2 := HK2.out.own.lt
      have hsz2 := HK2.out.below.size
      have hfl : fr ≤ ps.length := by rw [← HJ1.out.1]; exact hfrle
      have HSeg : Hid (∃ m', Seg w4 (fun b => b = g) w.heap.size (ps.take fr) (ts.take fr) m' ∧ m' ≤ w4.heap.size ∧ TrX w4 (fun b => b = g) (ctV e (ts.drop fr)) m' w4.heap.size p) := by
        have hJX := HJ1.out.2.1.move HK.out.1
        have hbX := HK.out.2.2.2
        have s4 := hJX.seg.move (S := fun _ => False) (Chg.of_below hbX) (E' := fun b => b = g) (fun b _ hb => ⟨fun q => q, hb⟩)
        obtain ⟨m', g1, g2⟩ := s4.split fr
        have hgX := hJX.own.lt
        have hpb := BoxAt.lt HK.out.2.1
        have hqb := HK.out.2.2.1.lt
        exact ⟨m', g1, by have := g2.le; have := hbX.size; omega, seg_tree g2 (by rw [List.length_drop]; have := HFr.out; omega) HK.out.2.1 HK.out.2.2.1 hpb.2 hqb.2 (by omega) (by omega)⟩
      have HM : Hid (fr = (ps.take fr).length) := by
        show fr = _
        rw [List.length_take]; omega
      have HO2 : Hid (PRow (w4.alloc (Obj.cells #[ptrV p] 48)) w.heap.size g cp (ps.take fr)) := (HK2.out.own.take hfl).chg (S := fun _ => False) (Chg.of_below ((Below.refl _ _).alloc (Nat.le_refl _) _)) (fun q => q)
      have HC2 : Hid (∀ i v, [p][i]? = some v → (w4.alloc (Obj.cells #[ptrV p] 48)).cell? ⟨w4.heap.size, 0 + i, none⟩ = some (ptrV v)) := fun i v hv => by
        match i, hv with
        | 0, hv => cases hv; simp [go_sem]
      have z4 : (fr : Int) ≤ (cp : Int) := by omega
      clear c0 c1 c2 c3 c4 c5 c6 HSh
      go_wp2_with (at_builtin; refine wpList_append_ct _ rfl _ _ rfl w.heap.size g cp fr w4.heap.size 0 1 1 (ps.take fr) [p] rfl rfl HM.out rfl HO2.out HC2.out (by rw [← HM.out]; simp; omega) (by simp; omega) ?_)
      intro g' cp' w' hA'
      have fin : Hid (FcJ w xs (j + 1) g' cp' (ps.take fr ++ [p]) (ts.take fr ++ [ctV e (ts.drop fr)]) w') := HK2.out.push (q := q) (cq := cq) (B := 0) (Below.refl _ _) HSeg.out HY.out hA'
      have hcp' : fr + 1 ≤ cp' := by have h8 := hA'.own.caps.1; rw [List.length_append, ← HM.out] at h8; exact h8
      clear hA'
      go_wp2_with fail
      go_roundw
      case rel => exact ⟨j + 1, fr + 1, g', cp', ps.take fr ++ [p], ts.take fr ++ [ctV e (ts.drop fr)], rfl, by go_num, by omega, by rw [List.length_append, List.length_singleton, ← HM.out], by omega, hcp', rfl, fin.out⟩
      case measure => simp [intOf]; omega
    · have zj : ¬ (j : Int) < (n : Int) := by omega
      have hFo : ts = [t] := by
        have h1 := HJ.out.2.fold
        rw [List.take_of_length_le (by have := HL.out; omega), HF.out.2.1] at h1
        exact (Option.some.inj h1).symm
      subst hFo
      have hm1 : m = 1 := by rw [HJ.out.1, HJ.out.2.seg.len]; rfl
      subst hm1
      obtain ⟨p, rfl⟩ : ∃ p, ps = [p] := by
        have h1 := HJ.out.1
        match ps, h1 with
        | [p], _ => exact ⟨p, rfl⟩
      have e0 : wr.cell? ⟨g, 0, none⟩ = some (ptrV p) := HJ.out.2.own.cell (j := 0) rfl
      have HR : Hid (FcPost t w (.returned (.tuple #[ptrV p, .bool true])) wr) := by
        obtain ⟨m', h1, h2, h3⟩ := HJ.out.2.seg
        exact ⟨p, rfl, (h1.tr).high h3, HJ.out.2.below⟩
      go_wp2_with fail
      exact bodyPost_ret (v := .tuple #[ptrV p, .bool true]) (by simp [results, Try.results20, go_sem]) rfl HR.out
end Go.Proofs.Ytkbmdkgfgfbilaa

/-
  spec.l6Conds: a leaf.
-/
namespace Go.Proofs.Ytkbmdkgfgfbilaa
open Go.ChangeShapes Go.WideShapes Go.ChangeAt Go.RowKit Go.Deep
set_option linter.unusedVariables false
set_option linter.unusedSimpArgs false
set_option maxRecDepth 100000

set_option maxHeartbeats 8000000 in
theorem conds_leaf {n : Nat} (H : CoC n) (w : World) (b o cap gb nb cb : Nat) (ks : List (List Nd)) (e : Nd) (t : CT) (L : List Ix) (s : Bool) (f : Nat) (hn : (ks.flatten ++ [e]).length ≤ n + 1) (hn2 : (ks.flatten ++ [e]).length ≤ 200) (hf : f + (ks.flatten ++ [e]).length ≤ 1000) (hW : Win w b o cap (ks.flatten ++ [e])) (hT : TreeF (ks.flatten ++ [e]) t) (hal : ks.length = arity e.kind) (hIs : ∀ k ∈ ks, IsT 1 k) (hLs : Lst w gb L) (hnb : nb = L.length) (hBf : Bfr L t.size) (hk : arity e.kind = 0) (ht : t = .leaf e) (hks : ks = []) : Calls Try.prog 15 #[.slice (some ⟨b, o, none⟩) (ks.flatten ++ [e]).length cap, .slice (some ⟨gb, 0, none⟩) nb cb, .bool s, .int .i64 (f : Int)] w (CoP (t.conds L s f) w) := by
  simp only [List.length_append, List.length_singleton] at hn hn2 hf
  obtain ⟨m, hm⟩ : ∃ m, m = ks.flatten.length := ⟨_, rfl⟩
  have HT : Hid (∀ wx, Below w.heap.size w wx → Calls Try.prog 38 #[.slice (some ⟨b, o, none⟩) (m + 1) cap] wx fun r w' => r = .returned (.int .i64 e.kind) ∧ w' = wx) := fun wx hx => by
    rw [hm]; exact l5Top_core (hW.below hx)
  obtain ⟨a3, ha3⟩ : ∃ a3, a3 = ks.length := ⟨_, rfl⟩
  have HKs : Hid (Calls Try.prog 37 #[.slice (some ⟨b, o, none⟩) (m + 1) cap] w fun r w' => ∃ g cp, r = .returned (.slice (some ⟨g, 0, none⟩) a3 cp) ∧ OwnV w' w.heap.size g cp (kidVs b o cap ks) ∧ Below w.heap.size w w') := by
    rw [ha3, hm]; exact l5Kids_core hW hal hIs
  have HN : Hid (∀ {j : Nat} {k : List Nd} {u : CT}, ks[j]? = some k → TreeF k u → ∃ o' cap', (kidVs b o cap ks)[j]? = some (.slice (some ⟨b, o', none⟩) k.length cap') ∧ CkC w b o' k.length cap' u ∧ u.size = k.length) := by
    intro j k u hk hu
    obtain ⟨o', cap', hv, hWk⟩ := kidVs_nth hW hk
    have hkl := len_flat (List.mem_of_getElem? hk)
    exact ⟨o', cap', hv, ckC_of H (by omega) (by omega) hWk hu, hu.size⟩
  rw [List.length_append, List.length_singleton, ← hm]
  rw [← hm] at hf hn2
  have HM : Hid (a3 = ks.length ∧ m = ks.flatten.length) := ⟨ha3, hm⟩
  have HSz : Hid (t.size ≤ 200 ∧ t.size = m + 1) := by
    have h1 := hT.size
    rw [List.length_append, List.length_singleton, ← hm] at h1
    exact ⟨by omega, h1⟩
  have HL : Hid (Lst w gb L ∧ nb = L.length ∧ Bfr L t.size) := ⟨hLs, hnb, hBf⟩
  have HK0 : Hid (t = .leaf e ∧ ks = [] ∧ arity e.kind = 0) := ⟨ht, hks, hk⟩
  clear hW hT hIs H hal hn hm ha3 ht hks hk hLs hnb hBf
  go_enter Try.func15, Try.ntmps15
  go_wp2_with fail
  refine HKs.out.mono ?_
  rintro r w1 ⟨kg, kc1, rfl, hO, hb1⟩
  have s1 := hb1.size
  have HO : Hid (OwnV w1 w.heap.size kg kc1 (kidVs b o cap ks)) := hO
  have hkc := hO.caps
  rw [kidVs_len, ← HM.out.1] at hkc
  have hkl := hO.lt
  clear hO HKs
  obtain ⟨W1, hW1⟩ : ∃ W1 : World, W1 = w1.alloc (Obj.cells #[] 29) := ⟨_, rfl⟩
  obtain ⟨G0, hG0⟩ : ∃ G0, G0 = w1.heap.size := ⟨_, rfl⟩
  have C0 : Hid (Cds w1 W1 (.slice (some ⟨G0, 0, none⟩) 0 0) [] []) := by rw [hW1, hG0]; exact cds_new w1
  have x1 : Below w1.heap.size w1 W1 := C0.out.below
  have j1 : Below w.heap.size w W1 := hb1.trans (x1.mono s1)
  go_upto_region 3 with fail
  rw [← hW1, ← hG0]
  clear hW1 hG0
  go_wp2_with fail
  refine (HT.out W1 j1).mono ?_
  rintro r w1' ⟨rfl, hw1⟩
  rw [hw1]
  clear hw1
  obtain ⟨ht, hks, hk⟩ := HK0.out
  clear HK0
  subst ht hks
  have z14 : (e.kind == 14) = false := by rw [beq_eq_false_iff_ne]; exact fun q => by rw [q] at hk; simp [arity] at hk
  have z15 : (e.kind == 15) = false := by rw [beq_eq_false_iff_ne]; exact fun q => by rw [q] at hk; simp [arity] at hk
  have z16 : (e.kind == 16) = false := by rw [beq_eq_false_iff_ne]; exact fun q => by rw [q] at hk; simp [arity] at hk
  have HR : Hid (CoP (CT.conds (.leaf e) L s f) w (.returned (.slice (some ⟨G0, 0, none⟩) 0 0)) W1) := ⟨G0, 0, 0, [], rfl, C0.out.weak hb1, j1⟩
  clear hk
  go_wp2_with fail
  go_ret
  exact HR.out
end Go.Proofs.Ytkbmdkgfgfbilaa

/-
  spec.l6Conds: an interleave.
-/
namespace Go.Proofs.Ytkbmdkgfgfbilaa
open Go.ChangeShapes Go.WideShapes Go.ChangeAt Go.RowKit Go.Deep
set_option linter.unusedVariables false
set_option linter.unusedSimpArgs false
set_option maxRecDepth 100000

set_option maxHeartbeats 8000000 in
theorem conds_inter {n : Nat} (H : CoC n) (w : World) (b o cap gb nb cb : Nat) (ks : List (List Nd)) (e : Nd) (t : CT) (L : List Ix) (s : Bool) (f : Nat) (hn : (ks.flatten ++ [e]).length ≤ n + 1) (hn2 : (ks.flatten ++ [e]).length ≤ 200) (hf : f + (ks.flatten ++ [e]).length ≤ 1000) (hW : Win w b o cap (ks.flatten ++ [e])) (hT : TreeF (ks.flatten ++ [e]) t) (hal : ks.length = arity e.kind) (hIs : ∀ k ∈ ks, IsT 1 k) (hLs : Lst w gb L) (hnb : nb = L.length) (hBf : Bfr L t.size) {x y : CT} {ka kb : List Nd} (h15 : e.kind = 15) (hx : TreeF ka x) (hy : TreeF kb y) (ht : t = .inter e x y) (hks : ks = [ka, kb]) : Calls Try.prog 15 #[.slice (some ⟨b, o, none⟩) (ks.flatten ++ [e]).length cap, .slice (some ⟨gb, 0, none⟩) nb cb, .bool s, .int .i64 (f : Int)] w (CoP (t.conds L s f) w) := by
  simp only [List.length_append, List.length_singleton] at hn hn2 hf
  obtain ⟨m, hm⟩ : ∃ m, m = ks.flatten.length := ⟨_, rfl⟩
  have HT : Hid (∀ wx, Below w.heap.size w wx → Calls Try.prog 38 #[.slice (some ⟨b, o, none⟩) (m + 1) cap] wx fun r w' => r = .returned (.int .i64 e.kind) ∧ w' = wx) := fun wx hx => by
    rw [hm]; exact l5Top_core (hW.below hx)
  obtain ⟨a3, ha3⟩ : ∃ a3, a3 = ks.length := ⟨_, rfl⟩
  have HKs : Hid (Calls Try.prog 37 #[.slice (some ⟨b, o, none⟩) (m + 1) cap] w fun r w' => ∃ g cp, r = .returned (.slice (some ⟨g, 0, none⟩) a3 cp) ∧ OwnV w' w.heap.size g cp (kidVs b o cap ks) ∧ Below w.heap.size w w') := by
    rw [ha3, hm]; exact l5Kids_core hW hal hIs
  have HN : Hid (∀ {j : Nat} {k : List Nd} {u : CT}, ks[j]? = some k → TreeF k u → ∃ o' cap', (kidVs b o cap ks)[j]? = some (.slice (some ⟨b, o', none⟩) k.length cap') ∧ CkC w b o' k.length cap' u ∧ u.size = k.length) := by
    intro j k u hk hu
    obtain ⟨o', cap', hv, hWk⟩ := kidVs_nth hW hk
    have hkl := len_flat (List.mem_of_getElem? hk)
    exact ⟨o', cap', hv, ckC_of H (by omega) (by omega) hWk hu, hu.size⟩
  rw [List.length_append, List.length_singleton, ← hm]
  rw [← hm] at hf hn2
  have HM : Hid (a3 = ks.length ∧ m = ks.flatten.length) := ⟨ha3, hm⟩
  have HSz : Hid (t.size ≤ 200 ∧ t.size = m + 1) := by
    have h1 := hT.size
    rw [List.length_append, List.length_singleton, ← hm] at h1
    exact ⟨by omega, h1⟩
  have HL : Hid (Lst w gb L ∧ nb = L.length ∧ Bfr L t.size) := ⟨hLs, hnb, hBf⟩
  have HK0 : Hid (t = .inter e x y ∧ ks = [ka, kb] ∧ e.kind = 15) := ⟨ht, hks, h15⟩
  clear hW hT hIs H hal hn hm ha3 ht hks h15 hLs hnb hBf
  go_enter Try.func15, Try.ntmps15
  go_wp2_with fail
  refine HKs.out.mono ?_
  rintro r w1 ⟨kg, kc1, rfl, hO, hb1⟩
  have s1 := hb1.size
  have HO : Hid (OwnV w1 w.heap.size kg kc1 (kidVs b o cap ks)) := hO
  have hkc := hO.caps
  rw [kidVs_len, ← HM.out.1] at hkc
  have hkl := hO.lt
  clear hO HKs
  obtain ⟨W1, hW1⟩ : ∃ W1 : World, W1 = w1.alloc (Obj.cells #[] 29) := ⟨_, rfl⟩
  obtain ⟨G0, hG0⟩ : ∃ G0, G0 = w1.heap.size := ⟨_, rfl⟩
  have C0 : Hid (Cds w1 W1 (.slice (some ⟨G0, 0, none⟩) 0 0) [] []) := by rw [hW1, hG0]; exact cds_new w1
  have x1 : Below w1.heap.size w1 W1 := C0.out.below
  have j1 : Below w.heap.size w W1 := hb1.trans (x1.mono s1)
  go_upto_region 3 with fail
  rw [← hW1, ← hG0]
  clear hW1 hG0
  go_wp2_with fail
  refine (HT.out W1 j1).mono ?_
  rintro r w1' ⟨rfl, hw1⟩
  rw [hw1]
  clear hw1
  obtain ⟨ht, hks, h15⟩ := HK0.out
  clear HK0
  subst ht hks
  have z14 : (e.kind == 14) = false := by rw [beq_eq_false_iff_ne]; omega
  have z15 : (e.kind == 15) = true := by rw [beq_iff_eq]; exact h15
  obtain rfl : a3 = 2 := HM.out.1
  obtain ⟨o1, c1, hv1, hc1, hz1⟩ := HN.out (j := 0) rfl hx
  obtain ⟨o2, c2, hv2, hc2, hz2⟩ := HN.out (j := 1) rfl hy
  have q0 := (HO.out.below x1).cell hv1
  have q1 := (HO.out.below x1).cell hv2
  have hm2 : m = ka.length + kb.length := by rw [HM.out.2]; simp
  obtain ⟨l1, hl1⟩ : ∃ l1, l1 = ka.length := ⟨_, rfl⟩
  obtain ⟨l2, hl2⟩ : ∃ l2, l2 = kb.length := ⟨_, rfl⟩
  rw [← hl1] at q0 hc1 hm2 hz1
  rw [← hl2] at q1 hc2 hm2 hz2
  have HC1 : Hid (CkC w b o1 l1 c1 x) := hc1
  have HC2 : Hid (CkC w b o2 l2 c2 y) := hc2
  have HG1 : Hid (GkC w b o1 l1 c1 x) := hc1.g
  have HG2 : Hid (GkC w b o2 l2 c2 y) := hc2.g
  have hi1 := hc1.g.le
  have HI : Hid (x.ifs ≤ 200 ∧ y.ifs ≤ 200 ∧ x.size = l1 ∧ y.size = l2) := ⟨hc1.ifs, hc2.ifs, hz1, hz2⟩
  have hf1 : f + l1 ≤ 1000 := by omega
  have hf2 : f + x.ifs + l2 ≤ 1000 := by omega
  have hkw1 : kg < w1.heap.size := hkl.2
  clear hc1 hc2 hv1 hv2 hl1 hl2 hm2 hx hy hz1 hz2
  have HBx : Hid (Bfr L x.size) := HL.out.2.2.less (by show _ ≤ CT.size _; simp only [CT.size]; omega)
  go_wp2_with fail
  refine (CkC.conds_in HC1 L s f gb nb cb _ rfl hf1 HL.out.2.1 HBx.out W1 j1 (HL.out.1.below j1)).mono ?_
  rintro r w2 ⟨g2, n2, p2, bs2, rfl, D2, hb2⟩
  have C2 : Hid (Cds w1 w2 (.slice (some ⟨G0, 0, none⟩) 0 0) [] []) := C0.out.move hb2
  have x2 : Below w1.heap.size w1 w2 := C2.out.below
  have hl2 : Hid (([] : List (List Ix)).length + (x.conds L s f).length ≤ 1000) := by show _ ≤ _; rw [conds_len]; have := HI.out.1; simp; omega
  have hs2 : Hid (w1.heap.size ≤ W1.heap.size) := x1.size
  go_wp2_with (at_builtin; refine wpList_append_cds rfl _ _ rfl G0 0 0 g2 n2 p2 [] (x.conds L s f) [] bs2 rfl rfl C2.out D2.out hs2.out hl2.out ?_)
  intro g3 n3 p3 bs3 w3 C3 x3
  clear C2 D2 hb2 C0
  have j3 : Below w.heap.size w w3 := hb1.trans (x3.mono s1)
  have t0 : w3.cell? ⟨kg, 0, none⟩ = some (.slice (some ⟨b, o1, none⟩) l1 c1) := by rw [x3.cell (p := ⟨kg, 0, none⟩) hkw1, ← x1.cell (p := ⟨kg, 0, none⟩) hkw1]; exact q0
  have t1 : w3.cell? ⟨kg, 1, none⟩ = some (.slice (some ⟨b, o2, none⟩) l2 c2) := by rw [x3.cell (p := ⟨kg, 1, none⟩) hkw1, ← x1.cell (p := ⟨kg, 1, none⟩) hkw1]; exact q1
  have hkw : kg < w3.heap.size := by have := x3.size; omega
  have HWr : Hid (IntKind.i64.wrap ((f : Int) + (x.ifs : Int)) = ((f + x.ifs : Nat) : Int)) := by show _ = _; rw [IntKind.wrap_i64]; omega
  have HLn : Hid ((x.conds L s f).length + (y.conds L s (f + x.ifs)).length ≤ 1000) := by show _ ≤ _; rw [conds_len, conds_len]; have := HI.out; omega
  have HBy : Hid (Bfr L y.size) := HL.out.2.2.less (by show _ ≤ CT.size _; simp only [CT.size]; omega)
  have HLs : Hid (Lst w3 gb L) := HL.out.1.below j3
  clear q0 q1
  go_upto_region 10 with fail
  have hSd : (fun w' : World => w'.cell? ⟨kg, 0, none⟩ = some (.slice (some ⟨b, o1, none⟩) l1 c1) ∧ w'.cell? ⟨kg, 1, none⟩ = some (.slice (some ⟨b, o2, none⟩) l2 c2)) w3.drew := ⟨t0, t1⟩
  have hbd : Below w3.heap.size w3 w3.drew := (Below.refl _ _).drew
  refine wp_region_T 99 (fun w' : World => w'.cell? ⟨kg, 0, none⟩ = some (.slice (some ⟨b, o1, none⟩) l1 c1) ∧ w'.cell? ⟨kg, 1, none⟩ = some (.slice (some ⟨b, o2, none⟩) l2 c2)) (by kernel_rfl) ?_
  refine anyT_takeN (i := 0) (v := ?vi0) rfl (by kernel_rfl) (by kernel_rfl) (by kernel_rfl) (by rfl) (fun _ _ _ h => h) (Or.inl ⟨by rfl, ?yi0⟩) hSd ?_
  case yi0 => (intro wz hSw; obtain ⟨hz0, hz1⟩ := hSw; go_simp; (try with_reducible rfl))
  try simp only [Act.put, List.getElem_toArray, List.getElem_cons_zero, List.getElem_cons_succ, List.setIfInBounds_toArray, List.set_cons_zero, List.set_cons_succ]
  refine anyT_takeN (i := 1) (v := ?vi1) rfl (by kernel_rfl) (by kernel_rfl) (by kernel_rfl) (by rfl) (fun _ _ _ h => h) (Or.inl ⟨by rfl, ?yi1⟩) hSd ?_
  case yi1 => (intro wz hSw; obtain ⟨hz0, hz1⟩ := hSw; go_simp; (try with_reducible rfl))
  try simp only [Act.put, List.getElem_toArray, List.getElem_cons_zero, List.getElem_cons_succ, List.setIfInBounds_toArray, List.set_cons_zero, List.set_cons_succ]
  refine anyT_takeN (i := 2) (v := ?vi2) rfl (by kernel_rfl) (by kernel_rfl) (by kernel_rfl) (by rfl) (fun _ _ _ h => h) (Or.inl ⟨by rfl, ?yi2⟩) hSd ?_
  case yi2 => (intro wz hSw; obtain ⟨hz0, hz1⟩ := hSw; go_simp; (try with_reducible rfl))
  try simp only [Act.put, List.getElem_toArray, List.getElem_cons_zero, List.getElem_cons_succ, List.setIfInBounds_toArray, List.set_cons_zero, List.set_cons_succ]
  refine anyT_takeN (i := 3) (v := ?vi3) rfl (by kernel_rfl) (by kernel_rfl) (by kernel_rfl) (by rfl) (fun _ _ _ h => h) (Or.inl ⟨by rfl, ?yi3⟩) hSd ?_
  case yi3 => (intro wz hSw; obtain ⟨hz0, hz1⟩ := hSw; go_simp; (try with_reducible rfl))
  try simp only [Act.put, List.getElem_toArray, List.getElem_cons_zero, List.getElem_cons_succ, List.setIfInBounds_toArray, List.set_cons_zero, List.set_cons_succ]
  refine anyT_takeN (i := 4) (v := ?vi4) rfl (by kernel_rfl) (by kernel_rfl) (by kernel_rfl) (by rfl) (fun _ _ _ h => h) (Or.inl ⟨by rfl, ?yi4⟩) hSd ?_
  case yi4 => (intro wz hSw; obtain ⟨hz0, hz1⟩ := hSw; go_simp; (try with_reducible rfl))
  try simp only [Act.put, List.getElem_toArray, List.getElem_cons_zero, List.getElem_cons_succ, List.setIfInBounds_toArray, List.set_cons_zero, List.set_cons_succ]
  refine anyT_takeN (i := 5) (v := ?vi5) rfl (by kernel_rfl) (by kernel_rfl) (by kernel_rfl) (by rfl) (fun _ _ _ h => h) (Or.inl ⟨by rfl, ?yi5⟩) hSd ?_
  case yi5 => (intro wz hSw; obtain ⟨hz0, hz1⟩ := hSw; go_simp; (try with_reducible rfl))
  try simp only [Act.put, List.getElem_toArray, List.getElem_cons_zero, List.getElem_cons_succ, List.setIfInBounds_toArray, List.set_cons_zero, List.set_cons_succ]
  refine anyT_takeN (i := 6) (v := ?vi6) rfl (by kernel_rfl) (by kernel_rfl) (by kernel_rfl) (by rfl) (fun _ _ _ h => h) (Or.inl ⟨by rfl, ?yi6⟩) hSd ?_
  case yi6 => (intro wz hSw; obtain ⟨hz0, hz1⟩ := hSw; go_simp; (try with_reducible rfl))
  try simp only [Act.put, List.getElem_toArray, List.getElem_cons_zero, List.getElem_cons_succ, List.setIfInBounds_toArray, List.set_cons_zero, List.set_cons_succ]
  refine anyT_takeN (i := 7) (v := ?vi7) rfl (by kernel_rfl) (by kernel_rfl) (by kernel_rfl) (by rfl) (fun _ _ _ h => h) (Or.inl ⟨by rfl, ?yi7⟩) hSd ?_
  case yi7 => (intro wz hSw; obtain ⟨hz0, hz1⟩ := hSw; go_simp; (try with_reducible rfl))
  try simp only [Act.put, List.getElem_toArray, List.getElem_cons_zero, List.getElem_cons_succ, List.setIfInBounds_toArray, List.set_cons_zero, List.set_cons_succ]
  refine anyT_takeN (i := 8) (v := ?vi8) rfl (by kernel_rfl) (by kernel_rfl) (by kernel_rfl) (by rfl) (fun _ _ _ h => h) (Or.inl ⟨by rfl, ?yi8⟩) hSd ?_
  case yi8 => (intro wz hSw; obtain ⟨hz0, hz1⟩ := hSw; go_simp; (try with_reducible rfl))
  try simp only [Act.put, List.getElem_toArray, List.getElem_cons_zero, List.getElem_cons_succ, List.setIfInBounds_toArray, List.set_cons_zero, List.set_cons_succ]
  refine anyT_takeN (i := 9) (v := ?vi9) rfl (by kernel_rfl) (by kernel_rfl) (by kernel_rfl) (by rfl) (fun _ _ _ h => h) (Or.inl ⟨by rfl, ?yi9⟩) hSd ?_
  case yi9 => (intro wz hSw; obtain ⟨hz0, hz1⟩ := hSw; go_simp; (try with_reducible rfl))
  try simp only [Act.put, List.getElem_toArray, List.getElem_cons_zero, List.getElem_cons_succ, List.setIfInBounds_toArray, List.set_cons_zero, List.set_cons_succ]
  refine anyT_one (i := 10) (by kernel_rfl) rfl (fun K hK => ?_)
  go_simp
  go_at_call 41
  refine (GkC.ifs_in HG1 j3 _ hbd).mono ?_
  rintro r v4 ⟨rfl, hv4⟩
  rw [hv4]
  clear hv4
  refine hK.out _ _ (.inr hSd) ?_
  clear hK
  try simp only [Act.put, List.getElem_toArray, List.getElem_cons_zero, List.getElem_cons_succ, List.setIfInBounds_toArray, List.set_cons_zero, List.set_cons_succ]
  refine anyT_takeN (i := 11) (v := ?vi11) rfl (by kernel_rfl) (by kernel_rfl) (by kernel_rfl) (by rfl) (fun _ _ _ h => h) (Or.inl ⟨by rfl, ?yi11⟩) hSd ?_
  case yi11 => (intro wz hSw; obtain ⟨hz0, hz1⟩ := hSw; go_simp; (try with_reducible rfl))
  try simp only [Act.put, List.getElem_toArray, List.getElem_cons_zero, List.getElem_cons_succ, List.setIfInBounds_toArray, List.set_cons_zero, List.set_cons_succ]
  refine anyT_one (i := 12) (by kernel_rfl) rfl (fun K hK => ?_)
  go_simp
  go_at_call 15
  refine (CkC.conds_in HC2 L s (f + x.ifs) gb nb cb _ HWr.out hf2 HL.out.2.1 HBy.out _ (j3.trans (hbd.mono j3.size)) (HLs.out.below hbd)).mono ?_
  rintro r v5 ⟨g5, n5, p5, bs5, rfl, D5, hb5⟩
  have hB5 : Below w3.heap.size w3 v5 := hbd.trans (hb5.mono hbd.size)
  have hS5 : (fun w' : World => w'.cell? ⟨kg, 0, none⟩ = some (.slice (some ⟨b, o1, none⟩) l1 c1) ∧ w'.cell? ⟨kg, 1, none⟩ = some (.slice (some ⟨b, o2, none⟩) l2 c2)) v5 := ⟨by rw [hB5.cell (p := ⟨kg, 0, none⟩) hkw]; exact t0, by rw [hB5.cell (p := ⟨kg, 1, none⟩) hkw]; exact t1⟩
  have C5 := C3.out.move hB5
  have hkv : kg < v5.heap.size := by have := hB5.size; omega
  refine hK.out _ _ (.inr hS5) ?_
  clear hK
  try simp only [Act.put, List.getElem_toArray, List.getElem_cons_zero, List.getElem_cons_succ, List.setIfInBounds_toArray, List.set_cons_zero, List.set_cons_succ]
  refine anyT_one (i := 13) (by kernel_rfl) rfl (fun K hK => ?_)
  refine step_append_cds rfl _ _ rfl g3 n3 p3 g5 n5 p5 (x.conds L s f) (y.conds L s (f + x.ifs)) bs3 bs5 rfl rfl C5 D5.out (by have h1 := x3.size; have h2 := hbd.size; omega) HLn.out ?_
  intro g6 n6 p6 bs6 v6 C6 x6
  have hS6 : (fun w' : World => w'.cell? ⟨kg, 0, none⟩ = some (.slice (some ⟨b, o1, none⟩) l1 c1) ∧ w'.cell? ⟨kg, 1, none⟩ = some (.slice (some ⟨b, o2, none⟩) l2 c2)) v6 := ⟨by rw [x6.cell (p := ⟨kg, 0, none⟩) hkw1, ← x3.cell (p := ⟨kg, 0, none⟩) hkw1]; exact t0, by rw [x6.cell (p := ⟨kg, 1, none⟩) hkw1, ← x3.cell (p := ⟨kg, 1, none⟩) hkw1]; exact t1⟩
  refine hK.out _ _ (.inr hS6) ?_
  clear hK
  try simp only [Act.put, List.getElem_toArray, List.getElem_cons_zero, List.getElem_cons_succ, List.setIfInBounds_toArray, List.set_cons_zero, List.set_cons_succ]
  refine anyT_one (i := 14) (by kernel_rfl) rfl (fun K hK => ?_)
  go_simp
  refine hK.out _ _ (.inr hS6) ?_
  clear hK
  try simp only [Act.put, List.getElem_toArray, List.getElem_cons_zero, List.getElem_cons_succ, List.setIfInBounds_toArray, List.set_cons_zero, List.set_cons_succ]
  refine anyT_done (by kernel_rfl) ?_
  have HR : Hid (CoP (CT.conds (.inter e x y) L s f) w (.returned (.slice (some ⟨g6, 0, none⟩) n6 p6)) v6) := ⟨g6, n6, p6, bs6, rfl, C6.out.weak hb1, hb1.trans (x6.mono s1)⟩
  clear C6
  go_wp2_with fail
  go_ret
  exact HR.out
end Go.Proofs.Ytkbmdkgfgfbilaa

