/-
  Reading a number byte by byte (mathematics).
-/
import Derived.Test.YtlgeffinhbodeacPkA
namespace Go.Proofs.Ytlgeffinhbodeac
set_option linter.unusedVariables false
set_option linter.unusedSimpArgs false

/-- What 'k' bytes read, of the value 'acc', make of the number that follows. -/
def cont (k acc : Nat) (o : Option (Nat × List UInt8)) : Option (Nat × List UInt8) :=
  match o with
  | none => none
  | some (m, t) => if 0 < k ∧ m = 0 then none else some (acc + 128 ^ k * m, t)
theorem cont_zero (o : Option (Nat × List UInt8)) : cont 0 0 o = o := by
  cases o with
  | none => rfl
  | some p => obtain ⟨m, t⟩ := p; simp [cont]
theorem cont_more {k acc : Nat} {x : UInt8} {t : List UInt8} (hx : ¬ x.toNat < 128) : cont k acc (getAny (x :: t)) = cont (k + 1) (acc + x.toNat % 128 * 128 ^ k) (getAny t) := by
  rw [getAny, if_neg hx]
  cases hg : getAny t with
  | none => rfl
  | some p =>
    obtain ⟨m, u⟩ := p
    have h2 := u8lt x
    by_cases hm : m = 0
    · subst hm
      simp [cont]
    · simp only [cont]
      rw [if_neg hm]
      simp only []
      rw [if_neg (by omega), if_neg (by omega)]
      have h1 : x.toNat % 128 = x.toNat - 128 := by omega
      rw [h1, Nat.mul_add, Nat.pow_succ, Nat.mul_comm (x.toNat - 128), Nat.mul_assoc]
      simp [Nat.add_assoc]
/-- The number read so far and what follows. -/
structure NumTo (ys : List UInt8) (k acc : Nat) : Prop where
  eq : getAny ys = cont k acc (getAny (ys.drop k))
  lt : acc < 128 ^ k
  len : k ≤ ys.length
theorem numTo_zero (ys : List UInt8) : NumTo ys 0 0 := ⟨by rw [cont_zero]; rfl, by simp, Nat.zero_le _⟩
theorem NumTo.more {ys : List UInt8} {k acc : Nat} {x : UInt8} (h : NumTo ys k acc) (hx : ys[k]? = some x) (h8 : ¬ x.toNat < 128) : NumTo ys (k + 1) (acc + x.toNat % 128 * 128 ^ k) := by
  have hk := (List.getElem?_eq_some_iff.1 hx).1
  have hd : ys.drop k = x :: ys.drop (k + 1) := by rw [List.drop_eq_getElem_cons hk, (List.getElem?_eq_some_iff.1 hx).2]
  have h1 := h.lt
  refine ⟨?_, ?_, hk⟩
  · rw [h.eq, hd, cont_more h8]
  · have h2 : x.toNat % 128 ≤ 127 := by omega
    have h3 : x.toNat % 128 * 128 ^ k ≤ 127 * 128 ^ k := Nat.mul_le_mul_right _ h2
    rw [Nat.pow_succ]
    omega
theorem pow9 {k : Nat} (h : k ≤ 9) : 128 ^ k ≤ 9223372036854775808 := by
  have := Nat.pow_le_pow_right (n := 128) (by omega) h
  exact Nat.le_trans this (by decide)
theorem pow8 {k : Nat} (h : k ≤ 8) : 128 ^ k ≤ 72057594037927936 := by
  have := Nat.pow_le_pow_right (n := 128) (by omega) h
  exact Nat.le_trans this (by decide)
/-- Nothing follows. -/
theorem NumTo.none {ys : List UInt8} {k acc : Nat} (h : NumTo ys k acc) (hk : ys.length ≤ k) : getNum ys = Option.none := by
  unfold getNum
  rw [h.eq, List.drop_of_length_le hk]
  rfl
/-- The tenth byte is too great. -/
theorem NumTo.great {ys : List UInt8} {acc : Nat} {x : UInt8} (h : NumTo ys 9 acc) (hx : ys[9]? = some x) (h1 : 1 < x.toNat) : getNum ys = Option.none := by
  have hk := (List.getElem?_eq_some_iff.1 hx).1
  have hd : ys.drop 9 = x :: ys.drop (9 + 1) := by rw [List.drop_eq_getElem_cons hk, (List.getElem?_eq_some_iff.1 hx).2]
  unfold getNum
  rw [h.eq, hd]
  by_cases h8 : x.toNat < 128
  · rw [getAny, if_pos h8]
    simp only [cont]
    rw [if_neg (by omega)]
    simp only []
    rw [if_neg (by omega)]
  · rw [cont_more h8]
    cases hg : getAny (ys.drop (9 + 1)) with
    | none => rfl
    | some p =>
      obtain ⟨m, u⟩ := p
      simp only [cont]
      by_cases hm : m = 0
      · rw [if_pos ⟨by omega, hm⟩]
      · rw [if_neg (by omega)]
        simp only []
        rw [if_neg (by omega)]
theorem NumTo.bound {ys : List UInt8} {k acc y : Nat} (h : NumTo ys k acc) (hk9 : k ≤ 9) (h9 : k = 9 → y ≤ 1) : acc + y % 128 * 128 ^ k < 2 ^ 64 := by
  have hlt := h.lt
  by_cases q : k = 9
  · subst q
    have := h9 rfl
    have : y % 128 * 128 ^ 9 ≤ 1 * 128 ^ 9 := Nat.mul_le_mul_right _ (by omega)
    omega
  · have h1 := pow8 (k := k) (by omega)
    have h2 : y % 128 * 128 ^ k ≤ 127 * 72057594037927936 := Nat.mul_le_mul (by omega) h1
    omega
/-- The last byte. -/
theorem NumTo.last {ys : List UInt8} {k acc : Nat} {x : UInt8} (h : NumTo ys k acc) (hx : ys[k]? = some x) (h8 : x.toNat < 128) (hk9 : k ≤ 9) (h9 : k = 9 → x.toNat ≤ 1) :
    (0 < k ∧ x.toNat = 0 → getNum ys = Option.none) ∧ (¬ (0 < k ∧ x.toNat = 0) → getNum ys = some (acc + x.toNat % 128 * 128 ^ k, ys.drop (k + 1)) ∧ acc + x.toNat % 128 * 128 ^ k < 2 ^ 64) := by
  have hk := (List.getElem?_eq_some_iff.1 hx).1
  have hd : ys.drop k = x :: ys.drop (k + 1) := by rw [List.drop_eq_getElem_cons hk, (List.getElem?_eq_some_iff.1 hx).2]
  have he : getAny ys = cont k acc (some (x.toNat, ys.drop (k + 1))) := by rw [h.eq, hd, getAny, if_pos h8]
  have hlt := h.lt
  have hb : acc + x.toNat % 128 * 128 ^ k < 2 ^ 64 := by
    by_cases q : k = 9
    · subst q
      have := h9 rfl
      have : x.toNat % 128 * 128 ^ 9 ≤ 1 * 128 ^ 9 := Nat.mul_le_mul_right _ (by omega)
      omega
    · have h1 := pow8 (k := k) (by omega)
      have h2 : x.toNat % 128 * 128 ^ k ≤ 127 * 72057594037927936 := Nat.mul_le_mul (by omega) h1
      omega
  unfold getNum
  rw [he]
  simp only [cont]
  constructor
  · intro q
    rw [if_pos q]
  · intro q
    rw [if_neg q]
    simp only []
    rw [Nat.mod_eq_of_lt h8, Nat.mul_comm] at hb
    rw [if_pos hb, Nat.mod_eq_of_lt h8, Nat.mul_comm x.toNat]
    exact ⟨rfl, hb⟩
end Go.Proofs.Ytlgeffinhbodeac
