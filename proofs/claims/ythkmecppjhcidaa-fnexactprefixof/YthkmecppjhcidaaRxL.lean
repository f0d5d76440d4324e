/-
  A class says the same wherever its bytes stand.
-/
import Derived.Test.YthkmecppjhcidaaRxG
namespace Go.Proofs.Ythkmecppjhcidaa
set_option linter.unusedVariables false
set_option linter.unusedSimpArgs false

theorem chM_agree {p q : List UInt8} {i j k : Nat} {c : UInt8} (h : chM p i = (c, k, true)) (ha : ∀ t, i + t < k → q[j + t]? = p[i + t]?) : chM q j = (c, j + (k - i), true) := by
  have hg := chM_gt h
  have h0 := ha 0 (by omega)
  simp only [Nat.add_zero] at h0
  unfold chM at h ⊢
  rw [h0]
  split at h
  · cases h
  · next d hd =>
    split at h
    · cases h
    · next hn =>
      rw [if_neg hn]
      split at h
      · next h92 =>
        rw [if_pos h92]
        split at h
        · cases h
        · next e he =>
          simp only [Prod.mk.injEq, and_true] at h
          obtain ⟨rfl, rfl⟩ := h
          have h1 := ha 1 (by omega)
          rw [h1, he]
          simp only [Prod.mk.injEq, and_true, true_and]
          omega
      · next h92 =>
        rw [if_neg h92]
        simp only [Prod.mk.injEq, and_true] at h
        obtain ⟨rfl, rfl⟩ := h
        simp only [Prod.mk.injEq, and_true, true_and]
        omega
theorem itemM_agree {p q : List UInt8} {i j k : Nat} {a b : UInt8} (h : itemM p i = .inl (a, b, k)) (ha : ∀ t, i + t ≤ k → q[j + t]? = p[i + t]?) : itemM q j = .inl (a, b, j + (k - i)) := by
  unfold itemM at h ⊢
  split at h
  · cases h
  · next lo k1 hk1 =>
    have hg := chM_gt hk1
    split at h
    · next h45 =>
      split at h
      · cases h
      · next hi m hm =>
        have hg2 := chM_gt hm
        split at h
        · cases h
        · next hle =>
          simp only [Sum.inl.injEq, Prod.mk.injEq] at h
          obtain ⟨rfl, rfl, rfl⟩ := h
          have e1 := chM_agree (q := q) (j := j) hk1 (fun t ht => ha t (by omega))
          have e2 : q[j + (k1 - i)]? = some 45 := by rw [ha (k1 - i) (by omega), show i + (k1 - i) = k1 by omega]; exact h45
          have e3 := chM_agree (q := q) (j := j + (k1 - i) + 1) hm (fun t ht => by have := ha (k1 - i + 1 + t) (by omega); rw [show j + (k1 - i) + 1 + t = j + (k1 - i + 1 + t) by omega, this]; congr 1; omega)
          rw [e1]
          simp only []
          rw [if_pos e2, e3]
          simp only []
          rw [if_neg hle]
          simp only [Sum.inl.injEq, Prod.mk.injEq, true_and]
          omega
    · next h45 =>
      simp only [Sum.inl.injEq, Prod.mk.injEq] at h
      obtain ⟨rfl, rfl, rfl⟩ := h
      have e1 := chM_agree (q := q) (j := j) hk1 (fun t ht => ha t (by omega))
      have e2 : ¬ q[j + (k1 - i)]? = some 45 := by rw [ha (k1 - i) (by omega), show i + (k1 - i) = k1 by omega]; exact h45
      rw [e1]
      simp only []
      rw [if_neg e2]
theorem clsM_agree : ∀ (n : Nat) {p q : List UInt8} {i j k : Nat} {b : Bool} {f g : UInt8 → Bool}, p.length - i ≤ n → clsM p i b f = .inl (g, k) → (∀ t, i + t < k → q[j + t]? = p[i + t]?) → clsM q j b f = .inl (g, j + (k - i))
  | n, p, q, i, j, k, b, f, g, hn, h, ha => by
    have hg := clsM_gt _ (Nat.le_refl _) h
    have h0 := ha 0 (by omega)
    simp only [Nat.add_zero] at h0
    rw [clsM] at h
    split at h
    · next hi =>
      have hj : j < q.length := by
        rw [List.getElem?_eq_getElem hi] at h0
        exact lt_of_at h0
      rw [clsM, dif_pos hj, h0]
      split at h
      · next he =>
        rw [if_pos he]
        simp only [Sum.inl.injEq, Prod.mk.injEq] at h
        obtain ⟨rfl, rfl⟩ := h
        simp only [Sum.inl.injEq, Prod.mk.injEq, true_and]
        omega
      · next he =>
        rw [if_neg he]
        split at h
        · cases h
        · next a b' k' hk =>
          have h1 := itemM_gt hk
          have h2 := clsM_gt _ (Nat.le_refl _) h
          have e1 := itemM_agree (q := q) (j := j) hk (fun t ht => ha t (by omega))
          match n, hn with
          | 0, hn => omega
          | n + 1, hn =>
            have e2 := clsM_agree n (q := q) (j := j + (k' - i)) (by omega) h (fun t ht => by have := ha (k' - i + t) (by omega); rw [show j + (k' - i) + t = j + (k' - i + t) by omega, this]; congr 1; omega)
            split
            · next e hh => rw [e1] at hh; cases hh
            · next a2 b2 k2 hh =>
              rw [e1] at hh
              simp only [Sum.inl.injEq, Prod.mk.injEq] at hh
              obtain ⟨rfl, rfl, rfl⟩ := hh
              rw [e2]
              simp only [Sum.inl.injEq, Prod.mk.injEq, true_and]
              omega
    · cases h
theorem classM_agree {p q : List UInt8} {i j k : Nat} {g : UInt8 → Bool} (h : classM p i = .inl (g, k)) (ha : ∀ t, i + t < k → q[j + t]? = p[i + t]?) : classM q j = .inl (g, j + (k - i)) := by
  have hg := classM_gt h
  have h0 := ha 0 (by omega)
  simp only [Nat.add_zero] at h0
  unfold classM at h ⊢
  rw [h0]
  split at h
  · next h94 =>
    rw [if_pos h94]
    split at h
    · next f k' hc =>
      have hg2 := clsM_gt _ (Nat.le_refl _) hc
      simp only [Sum.inl.injEq, Prod.mk.injEq] at h
      obtain ⟨rfl, rfl⟩ := h
      have e := clsM_agree _ (Nat.le_refl _) (q := q) (j := j + 1) hc (fun t ht => by have := ha (1 + t) (by omega); rw [show j + 1 + t = j + (1 + t) by omega, this]; congr 1; omega)
      rw [e]
      simp only [Sum.inl.injEq, Prod.mk.injEq, true_and]
      omega
    · cases h
  · next h94 =>
    rw [if_neg h94]
    exact clsM_agree _ (Nat.le_refl _) h ha
end Go.Proofs.Ythkmecppjhcidaa
