/-
  The checksum by a table (mathematics): eight steps of a byte at once.
-/
import Derived.Test.YtlgeffinhbodeacPkA
namespace Go.Proofs.Ytlgeffinhbodeac
set_option linter.unusedVariables false
set_option linter.unusedSimpArgs false

/-- One bit, as an exclusive or. -/
theorem sh_eq (c : BitVec 32) : sh c = (c >>> 1) ^^^ (if c.getLsbD 0 then 3988292384#32 else 0#32) := by
  unfold sh
  rw [bit0]
  by_cases h : c.toNat % 2 = 1 <;> simp [h]
theorem sh_xor (a b : BitVec 32) : sh (a ^^^ b) = sh a ^^^ sh b := by
  rw [sh_eq, sh_eq, sh_eq, BitVec.ushiftRight_xor_distrib, BitVec.getLsbD_xor]
  have h4 : ∀ x y p q : BitVec 32, (x ^^^ p) ^^^ (y ^^^ q) = (x ^^^ y) ^^^ (p ^^^ q) := by
    intro x y p q
    rw [BitVec.xor_assoc, BitVec.xor_assoc, ← BitVec.xor_assoc p y q, BitVec.xor_comm p y, BitVec.xor_assoc y p q]
  rw [h4]
  congr 1
  cases a.getLsbD 0 <;> cases b.getLsbD 0 <;> simp
theorem shN_xor (k : Nat) (a b : BitVec 32) : shN k (a ^^^ b) = shN k a ^^^ shN k b := by
  induction k with
  | zero => rfl
  | succ k ih => show sh (shN k (a ^^^ b)) = sh (shN k a) ^^^ sh (shN k b); rw [ih, sh_xor]
/-- Steps over zero bits are a shift. -/
theorem shN_zero : ∀ (k : Nat) (y : BitVec 32), (∀ i, i < k → y.getLsbD i = false) → shN k y = y >>> k
  | 0, y, _ => by simp [shN]
  | k + 1, y, h => by
    show sh (shN k y) = _
    rw [shN_zero k y (fun i hi => h i (by omega)), sh_eq, BitVec.getLsbD_ushiftRight, h (k + 0) (by omega), BitVec.shiftRight_add y k 1]
    simp
/-- The table's entry. -/
def tabE (i : Nat) : BitVec 32 := shN 8 (BitVec.ofNat 32 i)
theorem split8 (c : BitVec 32) (x : UInt8) : c ^^^ BitVec.ofNat 32 x.toNat = BitVec.ofNat 32 ((c.toNat % 256) ^^^ x.toNat) ^^^ ((c >>> 8) <<< 8) := by
  have hx := u8lt x
  apply BitVec.eq_of_getLsbD_eq
  intro i hi
  simp only [BitVec.getLsbD_xor, BitVec.getLsbD_ofNat, BitVec.getLsbD_shiftLeft, BitVec.getLsbD_ushiftRight, Nat.testBit_xor, hi, decide_true, Bool.true_and]
  rw [show (256 : Nat) = 2 ^ 8 from rfl, Nat.testBit_mod_two_pow]
  by_cases h8 : i < 8
  · simp [h8, BitVec.getLsbD]
  · have : x.toNat.testBit i = false := Nat.testBit_lt_two_pow (Nat.lt_of_lt_of_le hx (by
      have : 2 ^ 8 ≤ 2 ^ i := Nat.pow_le_pow_right (by omega) (by omega)
      omega))
    rw [this]
    simp [h8, show 8 + (i - 8) = i from by omega]
/-- One byte by the table. -/
theorem crcB_tab (c : BitVec 32) (x : UInt8) : crcB c x = tabE ((c.toNat % 256) ^^^ x.toNat) ^^^ (c >>> 8) := by
  have h : shN 8 ((c >>> 8) <<< 8) = c >>> 8 := by
    rw [shN_zero 8 _ (fun i hi => by simp [BitVec.getLsbD_shiftLeft, hi])]
    apply BitVec.eq_of_getLsbD_eq
    intro i hi
    simp only [BitVec.getLsbD_ushiftRight, BitVec.getLsbD_shiftLeft]
    by_cases h : 8 + i < 32
    · simp [h]
    · simp [h]
      rw [BitVec.getLsbD_of_ge c _ (by omega)]
  unfold crcB tabE
  rw [split8, shN_xor, h]
theorem tab_lt (c : BitVec 32) (x : UInt8) : (c.toNat % 256) ^^^ x.toNat < 256 := Nat.xor_lt_two_pow (n := 8) (by omega) (u8lt x)
end Go.Proofs.Ytlgeffinhbodeac
