/-
  (*impl.patternReader): classByte, item, class.
-/
import Derived.Test.YthkmecppjhcidacPs
import Derived.Test.YthkmecppjhcidacRxM
import Derived.Laws.Tables
import Derived.Laws.Rows
import Derived.Deep.WholeRow
namespace Go.Proofs.Ythkmecppjhcidac
open Go.ChangeShapes Go.WideShapes Go.ChangeAt Go.RowKit Go.Deep
set_option linter.unusedVariables false
set_option linter.unusedSimpArgs false
set_option maxRecDepth 100000

theorem chM_in {p : List UInt8} {i : Nat} (h : inB p i [93, 45] = true) : chM p i = (0, i, false) := by
  unfold inB at h
  unfold chM
  split at h
  · next c hc =>
    rw [hc]
    have : c = 93 ∨ c = 45 := by simpa using h
    simp only []
    rw [if_pos this]
  · cases h
theorem chM_end {p : List UInt8} {i : Nat} (h : p[i]? = none) : chM p i = (0, i, false) := by
  unfold chM; rw [h]
theorem chM_esc {p : List UInt8} {i : Nat} (h : p[i]? = some 92) : chM p i = match p[i + 1]? with | none => (0, i + 1, false) | some d => (d, i + 2, true) := by
  unfold chM; rw [h]; rfl
theorem chM_plain {p : List UInt8} {i : Nat} {c : UInt8} (h : p[i]? = some c) (h1 : inB p i [93, 45] = false) (h2 : ¬ c = 92) : chM p i = (c, i + 1, true) := by
  unfold inB at h1
  unfold chM
  rw [h] at h1 ⊢
  have : ¬ (c = 93 ∨ c = 45) := by simpa using h1
  simp only []
  rw [if_neg this, if_neg h2]

set_option maxHeartbeats 2000000 in
theorem classByte_core {base g i o : Nat} {p : ByteArray} {w : World} (h : PrAt w base g p i o) (hp : p.size ≤ 200) (hi : i ≤ p.size) :
    Calls Try.prog 142 #[.pointer (some ⟨g, 0, none⟩)] w fun e w' => Chg (fun k => k = g) w w' ∧
      ((∃ (x : UInt8) (k : Nat), chM (sb p) i = (x, k, true) ∧ e = .returned (.int .u8 (x.toNat : Int)) ∧ PrAt w' base g p k o) ∨ (∃ (x : UInt8) (k : Nat), chM (sb p) i = (x, k, false) ∧ e = Pf 2 k)) := by
  have HP : Hid (PrAt w base g p i o) := h
  clear h
  go_enter Try.func142, Try.ntmps142
  go_wp2_with fail
  refine (pnextIn_core ⟨#[93, 45]⟩ HP.out hp).mono ?_
  rintro e w1 ⟨rfl, hb1⟩
  have HP1 : Hid (PrAt w1 base g p i o ∧ Chg (fun k => k = g) w w1) := ⟨BoxAt.below HP.out hb1, Chg.of_below hb1⟩
  obtain ⟨q, hq⟩ : ∃ q, q = inB (sb p) i (sb ⟨#[93, 45]⟩) := ⟨_, rfl⟩
  have HQ : Hid (inB (sb p) i [93, 45] = q) := hq.symm
  rw [← hq]
  clear hb1 hq HP
  go_wp2_with fail
  refine (pdem_core (!q) HP1.out.1).mono ?_
  rintro e w2 ⟨rfl, (⟨hc, rfl⟩ | ⟨hc, rfl⟩)⟩
  case inr =>
    have hq : q = true := by simpa using hc
    refine ⟨rfl, HP1.out.2, .inr ⟨0, i, chM_in (by rw [HQ.out, hq]), rfl⟩⟩
  have hq : q = false := by simpa using hc
  subst hq
  clear hc
  go_wp2_with fail
  refine (ptake_core HP1.out.1 hp hi).mono ?_
  rintro e w3 ⟨hC3, (⟨x, hx, rfl, hP3⟩ | ⟨hx, rfl⟩)⟩
  case inr => exact ⟨rfl, HP1.out.2.trans hC3, .inr ⟨0, i, chM_end hx, rfl⟩⟩
  have HP3 : Hid (PrAt w3 base g p (i + 1) o ∧ Chg (fun k => k = g) w w3 ∧ (sb p)[i]? = some x) := ⟨hP3, HP1.out.2.trans hC3, hx⟩
  have hi1 : i + 1 ≤ p.size := by
    have := (List.getElem?_eq_some_iff.1 hx).1
    rw [sb_len] at this; omega
  clear hC3 hx hP3 HP1
  by_cases h92 : x = 92
  · subst h92
    go_wp2_with fail
    refine (ptake_core HP3.out.1 hp hi1).mono ?_
    rintro e w4 ⟨hC4, (⟨y, hy, rfl, hP4⟩ | ⟨hy, rfl⟩)⟩
    case inr => exact ⟨rfl, HP3.out.2.1.trans hC4, .inr ⟨0, i + 1, by rw [chM_esc HP3.out.2.2, hy], rfl⟩⟩
    have HF : Hid (Chg (fun k => k = g) w w4 ∧ chM (sb p) i = (y, i + 2, true) ∧ PrAt w4 base g p (i + 2) o) := ⟨HP3.out.2.1.trans hC4, by rw [chM_esc HP3.out.2.2, hy], hP4⟩
    clear hC4 hy hP4
    go_wp2_with fail
    go_ret
    exact ⟨HF.out.1, .inl ⟨y, i + 2, HF.out.2.1, rfl, HF.out.2.2⟩⟩
  · have z : ¬ (x.toNat : Int) = 92 := fun q => h92 (UInt8.toNat_inj.1 (by show x.toNat = 92; omega))
    go_wp2_with fail
    go_ret
    exact ⟨HP3.out.2.1, .inl ⟨x, i + 1, chM_plain HP3.out.2.2 HQ.out h92, rfl, HP3.out.1⟩⟩
end Go.Proofs.Ythkmecppjhcidac
