/-
  The order of keys: spec.CompareKeys and impl.CompareKeys come to 'keyCmp'.
-/
import Derived.Test.YtlgeffinhbodeaeQCmp
namespace Go.Proofs.Ytlgeffinhbodeae
open Go.ChangeShapes Go.WideShapes Go.ChangeAt Go.RowKit Go.Deep

def tri (x : Int) : Prop := x = -1 ∨ x = 0 ∨ x = 1
theorem tri_first {a b : Int} (h : tri a) (k : tri b) : tri (firstOf a b) := by
  unfold firstOf; split
  · exact k
  · exact h
theorem tri_kind (k l : Int) : tri (kindCmp k l) := by
  unfold kindCmp tri; repeat' split
  all_goals omega
theorem tri_ts (k l : Int) : tri (tsCmp k l) := by
  unfold tsCmp tri; repeat' split
  all_goals omega
theorem keyCmp_vals (a b : Ent) : keyCmp a b = -1 ∨ keyCmp a b = 0 ∨ keyCmp a b = 1 :=
  tri_first (cB_vals _ _) (tri_first (cB_vals _ _) (tri_first (cB_vals _ _) (tri_first (tri_kind _ _) (tri_ts _ _))))

def colCmp (a b : Ent) : Int := firstOf (cB a.row b.row) (firstOf (cB a.fam b.fam) (cB a.qual b.qual))

set_option maxHeartbeats 400000 in
theorem compareColumns_any (a b : Ent) (w : World) :
    Calls Try.prog 103 #[a.v, b.v] w fun e w' => e = .returned (.int .i64 (colCmp a b)) ∧ Below w.heap.size w w' := by
  unfold colCmp firstOf Ent.v
  by_cases h1 : cB a.row b.row = 0
  · have g1 : (cB a.row b.row != 0) = false := by simp [h1]
    rw [if_pos h1]
    clear h1
    by_cases h2 : cB a.fam b.fam = 0
    · have g2 : (cB a.fam b.fam != 0) = false := by simp [h2]
      rw [if_pos h2]
      clear h2
      go_enter Try.func103, Try.ntmps103
      go_wp2_with (go_at_call 143; refine (stringsCompare_any _ _ _).mono ?_; rintro e w' ⟨rfl, rfl⟩)
      go_ret
      exact ⟨rfl, ((Below.refl _ _).alloc (Nat.le_refl _) _).alloc (by simp) _⟩
    · have g2 : (cB a.fam b.fam != 0) = true := by simp [h2]
      rw [if_neg h2]
      clear h2
      go_enter Try.func103, Try.ntmps103
      go_wp2_with (go_at_call 143; refine (stringsCompare_any _ _ _).mono ?_; rintro e w' ⟨rfl, rfl⟩)
      go_ret
      exact ⟨rfl, ((Below.refl _ _).alloc (Nat.le_refl _) _).alloc (by simp) _⟩
  · have g1 : (cB a.row b.row != 0) = true := by simp [h1]
    rw [if_neg h1]
    clear h1
    go_enter Try.func103, Try.ntmps103
    go_wp2_with (go_at_call 143; refine (stringsCompare_any _ _ _).mono ?_; rintro e w' ⟨rfl, rfl⟩)
    go_ret
    exact ⟨rfl, ((Below.refl _ _).alloc (Nat.le_refl _) _).alloc (by simp) _⟩

theorem firstOf_assoc (a b c : Int) : firstOf (firstOf a b) c = firstOf a (firstOf b c) := by
  unfold firstOf
  by_cases h : a = 0
  · simp [h]
  · simp [h]
theorem keyCmp_col (a b : Ent) : keyCmp a b = firstOf (colCmp a b) (firstOf (kindCmp a.kind b.kind) (tsCmp a.ts b.ts)) := by
  unfold keyCmp colCmp
  rw [firstOf_assoc, firstOf_assoc]
theorem keyCmp_ne {a b : Ent} (h : ¬ colCmp a b = 0) : keyCmp a b = colCmp a b := by
  rw [keyCmp_col]; unfold firstOf; rw [if_neg h]
theorem keyCmp_del1 {a b : Ent} (h : colCmp a b = 0) (h1 : a.kind = 2) (h2 : ¬ b.kind = 2) : keyCmp a b = -1 := by
  rw [keyCmp_col]; unfold firstOf kindCmp; simp [h, h1, h2]
theorem keyCmp_del2 {a b : Ent} (h : colCmp a b = 0) (h1 : ¬ a.kind = 2) (h2 : b.kind = 2) : keyCmp a b = 1 := by
  rw [keyCmp_col]; unfold firstOf kindCmp; simp [h, h1, h2]
theorem keyCmp_ts {a b : Ent} (h : colCmp a b = 0) (h1 : (a.kind = 2) ↔ (b.kind = 2)) : keyCmp a b = tsCmp a.ts b.ts := by
  rw [keyCmp_col]; unfold firstOf kindCmp
  by_cases h2 : a.kind = 2
  · simp [h, h2, h1.1 h2]
  · have h3 : ¬ b.kind = 2 := fun x => h2 (h1.2 x)
    simp [h, h2, h3]

set_option maxHeartbeats 400000 in
theorem compare_any (a b : Ent) (w : World) :
    Calls Try.prog 62 #[a.v, b.v] w fun e w' => e = .returned (.int .i64 (keyCmp a b)) ∧ Below w.heap.size w w' := by
  by_cases h1 : colCmp a b = 0
  · have g1 : (colCmp a b != 0) = false := by simp [h1]
    by_cases ha : a.kind = 2
    · have ga : (a.kind == 2) = true := by simp [ha]
      by_cases hb : b.kind = 2
      · have gb : (b.kind == 2) = true := by simp [hb]
        have H : Hid (keyCmp a b = tsCmp a.ts b.ts) := keyCmp_ts h1 (by simp [ha, hb])
        clear h1 ha hb
        go_enter Try.func62, Try.ntmps62
        go_wp2_with fail
        refine (compareColumns_any a b _).mono ?_
        rintro e w1 ⟨rfl, hb1⟩
        obtain ⟨hc1, hf1⟩ := bcell hb1
        have hz1 : w.heap.size + 1 < w1.heap.size := by have := hb1.size; simp at this; omega
        go_wp2_with fail
        refine (cmpU64_any _ _ _).mono ?_
        rintro e w2 ⟨rfl, rfl⟩
        go_wp2_with fail
        go_ret
        exact ⟨ret_int H.out.symm, (((Below.refl _ _).alloc (Nat.le_refl _) _).alloc (by simp) _).trans (hb1.mono (by simp; omega))⟩
      · have gb : (b.kind == 2) = false := by simp [hb]
        have H : Hid (keyCmp a b = -1) := keyCmp_del1 h1 ha hb
        clear h1 ha hb
        go_enter Try.func62, Try.ntmps62
        go_wp2_with fail
        refine (compareColumns_any a b _).mono ?_
        rintro e w1 ⟨rfl, hb1⟩
        obtain ⟨hc1, hf1⟩ := bcell hb1
        have hz1 : w.heap.size + 1 < w1.heap.size := by have := hb1.size; simp at this; omega
        go_wp2_with fail
        go_ret
        exact ⟨ret_int H.out.symm, (((Below.refl _ _).alloc (Nat.le_refl _) _).alloc (by simp) _).trans (hb1.mono (by simp; omega))⟩
    · have ga : (a.kind == 2) = false := by simp [ha]
      by_cases hb : b.kind = 2
      · have gb : (b.kind == 2) = true := by simp [hb]
        have H : Hid (keyCmp a b = 1) := keyCmp_del2 h1 ha hb
        clear h1 ha hb
        go_enter Try.func62, Try.ntmps62
        go_wp2_with fail
        refine (compareColumns_any a b _).mono ?_
        rintro e w1 ⟨rfl, hb1⟩
        obtain ⟨hc1, hf1⟩ := bcell hb1
        have hz1 : w.heap.size + 1 < w1.heap.size := by have := hb1.size; simp at this; omega
        go_wp2_with fail
        go_ret
        exact ⟨ret_int H.out.symm, (((Below.refl _ _).alloc (Nat.le_refl _) _).alloc (by simp) _).trans (hb1.mono (by simp; omega))⟩
      · have gb : (b.kind == 2) = false := by simp [hb]
        have H : Hid (keyCmp a b = tsCmp a.ts b.ts) := keyCmp_ts h1 (by simp [ha, hb])
        clear h1 ha hb
        go_enter Try.func62, Try.ntmps62
        go_wp2_with fail
        refine (compareColumns_any a b _).mono ?_
        rintro e w1 ⟨rfl, hb1⟩
        obtain ⟨hc1, hf1⟩ := bcell hb1
        have hz1 : w.heap.size + 1 < w1.heap.size := by have := hb1.size; simp at this; omega
        go_wp2_with fail
        refine (cmpU64_any _ _ _).mono ?_
        rintro e w2 ⟨rfl, rfl⟩
        go_wp2_with fail
        go_ret
        exact ⟨ret_int H.out.symm, (((Below.refl _ _).alloc (Nat.le_refl _) _).alloc (by simp) _).trans (hb1.mono (by simp; omega))⟩
  · have g1 : (colCmp a b != 0) = true := by simp [h1]
    have H : Hid (keyCmp a b = colCmp a b) := keyCmp_ne h1
    clear h1
    go_enter Try.func62, Try.ntmps62
    go_wp2_with fail
    refine (compareColumns_any a b _).mono ?_
    rintro e w1 ⟨rfl, hb1⟩
    go_wp2_with fail
    go_ret
    exact ⟨ret_int H.out.symm, (((Below.refl _ _).alloc (Nat.le_refl _) _).alloc (by simp) _).trans (hb1.mono (by simp; omega))⟩

def kt (a b : Ent) (K T : Int) : Prop := keyCmp a b = firstOf (cB a.row b.row) (firstOf (cB a.fam b.fam) (firstOf (cB a.qual b.qual) (firstOf K T)))
theorem kt_of {a b : Ent} {K T : Int} (hk : kindCmp a.kind b.kind = K) (ht : tsCmp a.ts b.ts = T) : kt a b K T := by
  unfold kt keyCmp; rw [hk, ht]
theorem kinds (a b : Ent) :
    ((a.kind == 2) = true ∧ (a.kind != 2) = false ∧ (b.kind == 2) = true ∧ (b.kind != 2) = false ∧ kindCmp a.kind b.kind = 0) ∨
    ((a.kind == 2) = true ∧ (a.kind != 2) = false ∧ (b.kind == 2) = false ∧ (b.kind != 2) = true ∧ kindCmp a.kind b.kind = -1) ∨
    ((a.kind == 2) = false ∧ (a.kind != 2) = true ∧ (b.kind == 2) = true ∧ (b.kind != 2) = false ∧ kindCmp a.kind b.kind = 1) ∨
    ((a.kind == 2) = false ∧ (a.kind != 2) = true ∧ (b.kind == 2) = false ∧ (b.kind != 2) = true ∧ kindCmp a.kind b.kind = 0) := by
  unfold kindCmp
  by_cases ha : a.kind = 2 <;> by_cases hb : b.kind = 2 <;> simp [ha, hb]
theorem tss (a b : Ent) :
    (b.ts < a.ts ∧ ¬ a.ts < b.ts ∧ tsCmp a.ts b.ts = -1) ∨ (¬ b.ts < a.ts ∧ a.ts < b.ts ∧ tsCmp a.ts b.ts = 1) ∨ (¬ b.ts < a.ts ∧ ¬ a.ts < b.ts ∧ tsCmp a.ts b.ts = 0) := by
  unfold tsCmp
  by_cases h1 : b.ts < a.ts
  · exact .inl ⟨h1, by omega, by simp [h1]⟩
  · by_cases h2 : a.ts < b.ts
    · exact .inr (.inl ⟨h1, h2, by simp [h1, h2]⟩)
    · exact .inr (.inr ⟨h1, h2, by simp [h1, h2]⟩)

set_option maxHeartbeats 4000000 in
theorem specCompareKeys_any (a b : Ent) (w : World) :
    Calls Try.prog 47 #[a.v, b.v] w fun e w' => e = .returned (.int .i64 (keyCmp a b)) ∧ Below w.heap.size w w' := by
  unfold Ent.v
  rcases kinds a b with ⟨ga, ga', gb, gb', hk⟩ | ⟨ga, ga', gb, gb', hk⟩ | ⟨ga, ga', gb, gb', hk⟩ | ⟨ga, ga', gb, gb', hk⟩
  all_goals rcases tss a b with ⟨h1, h2, ht⟩ | ⟨h1, h2, ht⟩ | ⟨h1, h2, ht⟩
  all_goals
    have H := kt_of hk ht
    clear hk ht
    go_enter Try.func47, Try.ntmps47
    go_wp2
    go_quiet ((first | (go_at_call 91; exact Calls.quiet_of_same (l1Str_any _ _ _)) | (go_at_call 90; exact Calls.quiet_of_same (l1First_any _ _ _))))
    go_wp2
    go_ret
    exact ⟨ret_int H.symm, below_drewN (((Below.refl _ _).alloc (Nat.le_refl _) _).alloc (by simp) _) _⟩
end Go.Proofs.Ytlgeffinhbodeae
