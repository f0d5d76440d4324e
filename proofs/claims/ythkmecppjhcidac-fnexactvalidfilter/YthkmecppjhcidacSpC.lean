/-
  spec.l4Ch, l4Op, l4Class, CheckRegex.
-/
import Derived.Test.YthkmecppjhcidacPe
namespace Go.Proofs.Ythkmecppjhcidac
open Go.ChangeShapes Go.WideShapes Go.ChangeAt Go.RowKit Go.Deep
set_option linter.unusedVariables false
set_option linter.unusedSimpArgs false
set_option maxRecDepth 100000

theorem ne_u8 {x c : UInt8} (h : ¬ x = c) : ¬ (x.toNat : Int) = (c.toNat : Int) := fun q => h (UInt8.toNat_inj.1 (by omega))
set_option maxHeartbeats 2000000 in
theorem l4Ch_core (p : ByteArray) (i : Nat) (w : World) (hp : p.size ≤ 200) (hi : i ≤ 300) (c : UInt8) (k : Nat) (b : Bool) (h : chM (sb p) i = (c, k, b)) :
    Calls Try.prog 115 #[.string p, .int .i64 (i : Int)] w fun e w' => e = .returned (.tuple #[.int .u8 (c.toNat : Int), .int .i64 (k : Int), .bool b]) ∧ w' = w := by
  have HM : Hid (chM (sb p) i = (c, k, b)) := h
  clear h
  by_cases hlt : i < p.size
  · obtain ⟨x, hx⟩ : ∃ x, (sb p)[i]? = some x := ⟨_, List.getElem?_eq_getElem (by rw [sb_len]; exact hlt)⟩
    obtain ⟨_, gx⟩ := sb_get hx
    have z1 : (i : Int) < (p.size : Int) := by omega
    have hle : ¬ p.size ≤ i := by omega
    have HX : Hid ((sb p)[i]? = some x) := hx
    clear hx
    by_cases hend : x = 93 ∨ x = 45
    · have HF : c = 0 ∧ k = i ∧ b = false := by
        have h1 : chM (sb p) i = (0, i, false) := by unfold chM; rw [HX.out]; simp only []; rw [if_pos hend]
        rw [HM.out] at h1
        simpa using h1
      obtain ⟨rfl, rfl, rfl⟩ := HF
      rcases hend with rfl | rfl
      all_goals go_enter Try.func115, Try.ntmps115
      all_goals go_wp2_with fail
      all_goals refine bodyPost_ret (v := .tuple #[.int .u8 0, .int .i64 (k : Int), .bool false]) (by simp [results, Try.results115, go_sem]) rfl ⟨rfl, rfl⟩
    have h93 : ((x.toNat : Int) == 93) = false := beq_eq_false_iff_ne.2 (ne_u8 (c := 93) (fun q => hend (.inl q)))
    have h45 : ((x.toNat : Int) == 45) = false := beq_eq_false_iff_ne.2 (ne_u8 (c := 45) (fun q => hend (.inr q)))
    by_cases h92 : x = 92
    · subst h92
      by_cases hl2 : i + 1 < p.size
      · obtain ⟨y, hy⟩ : ∃ y, (sb p)[i + 1]? = some y := ⟨_, List.getElem?_eq_getElem (by rw [sb_len]; exact hl2)⟩
        obtain ⟨_, gy⟩ := sb_get hy
        have HF : c = y ∧ k = i + 2 ∧ b = true := by
          have h1 : chM (sb p) i = (y, i + 2, true) := by rw [chM_esc HX.out, hy]
          rw [HM.out] at h1
          simpa using h1
        obtain ⟨rfl, rfl, rfl⟩ := HF
        have z2 : (i : Int) + 1 < (p.size : Int) := by omega
        clear hy
        go_enter Try.func115, Try.ntmps115
        go_wp2_with fail
        refine bodyPost_ret (v := .tuple #[.int .u8 (c.toNat : Int), .int .i64 ((i + 2 : Nat) : Int), .bool true]) (by simp [results, Try.results115, go_sem]) rfl ⟨rfl, rfl⟩
      · have HF : c = 0 ∧ k = i + 1 ∧ b = false := by
          have h1 : chM (sb p) i = (0, i + 1, false) := by rw [chM_esc HX.out, List.getElem?_eq_none (by rw [sb_len]; omega)]
          rw [HM.out] at h1
          simpa using h1
        obtain ⟨rfl, rfl, rfl⟩ := HF
        have z2 : ¬ (i : Int) + 1 < (p.size : Int) := by omega
        go_enter Try.func115, Try.ntmps115
        go_wp2_with fail
        refine bodyPost_ret (v := .tuple #[.int .u8 0, .int .i64 ((i + 1 : Nat) : Int), .bool false]) (by simp [results, Try.results115, go_sem]) rfl ⟨rfl, rfl⟩
    · have z92 : ((x.toNat : Int) == 92) = false := beq_eq_false_iff_ne.2 (ne_u8 (c := 92) h92)
      have HF : c = x ∧ k = i + 1 ∧ b = true := by
        have h1 : chM (sb p) i = (x, i + 1, true) := by unfold chM; rw [HX.out]; simp only []; rw [if_neg hend, if_neg h92]
        rw [HM.out] at h1
        simpa using h1
      obtain ⟨rfl, rfl, rfl⟩ := HF
      go_enter Try.func115, Try.ntmps115
      go_wp2_with fail
      refine bodyPost_ret (v := .tuple #[.int .u8 (c.toNat : Int), .int .i64 ((i + 1 : Nat) : Int), .bool true]) (by simp [results, Try.results115, go_sem]) rfl ⟨rfl, rfl⟩
  · have HF : c = 0 ∧ k = i ∧ b = false := by
      have h1 : chM (sb p) i = (0, i, false) := chM_end (List.getElem?_eq_none (by rw [sb_len]; omega))
      rw [HM.out] at h1
      simpa using h1
    obtain ⟨rfl, rfl, rfl⟩ := HF
    have z1 : ¬ (k : Int) < (p.size : Int) := by omega
    have z2 : (p.size : Int) ≤ (k : Int) := by omega
    go_enter Try.func115, Try.ntmps115
    go_wp2_with fail
    refine bodyPost_ret (v := .tuple #[.int .u8 0, .int .i64 (k : Int), .bool false]) (by simp [results, Try.results115, go_sem]) rfl ⟨rfl, rfl⟩

set_option maxHeartbeats 1000000 in
theorem l4Op_core (c : UInt8) (w : World) : Calls Try.prog 94 #[.int .u8 (c.toNat : Int)] w fun e w' => e = .returned (.bool (decide (isOp c))) ∧ w' = w := by
  by_cases h42 : c = 42
  · subst h42
    go_enter Try.func94, Try.ntmps94
    go_wp2_with fail
    go_ret
    exact ⟨rfl, rfl⟩
  by_cases h43 : c = 43
  · subst h43
    go_enter Try.func94, Try.ntmps94
    go_wp2_with fail
    go_ret
    exact ⟨rfl, rfl⟩
  by_cases h63 : c = 63
  · subst h63
    go_enter Try.func94, Try.ntmps94
    go_wp2_with fail
    go_ret
    exact ⟨rfl, rfl⟩
  have z1 : ((c.toNat : Int) == 42) = false := beq_eq_false_iff_ne.2 (ne_u8 (c := 42) h42)
  have z2 : ((c.toNat : Int) == 43) = false := beq_eq_false_iff_ne.2 (ne_u8 (c := 43) h43)
  have z3 : ((c.toNat : Int) == 63) = false := beq_eq_false_iff_ne.2 (ne_u8 (c := 63) h63)
  have H : Hid (decide (isOp c) = false) := decide_eq_false (fun q => q.elim h42 (fun q => q.elim h43 h63))
  go_enter Try.func94, Try.ntmps94
  go_wp2_with fail
  go_ret
  exact ⟨by rw [H.out]; (first | rfl | simp [z3]), rfl⟩
end Go.Proofs.Ythkmecppjhcidac
