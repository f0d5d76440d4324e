import Derived.Test.YtlgeffinhbodeacQEnt
/-
  Bytes of a run's file: numbers, strings, fixed numbers, as lists (mathematics).
-/
namespace Go.Proofs.Ytlgeffinhbodeac
set_option linter.unusedVariables false
set_option linter.unusedSimpArgs false

/-- The byte of a number. -/
def byt (n : Nat) : UInt8 := UInt8.ofNat n
theorem byt_nat {n : Nat} (h : n < 256) : (byt n).toNat = n := by
  unfold byt
  rw [UInt8.toNat_ofNat']
  exact Nat.mod_eq_of_lt h
theorem byt_self (x : UInt8) : byt x.toNat = x := by
  apply UInt8.toNat_inj.1
  rw [byt_nat (UInt8.toNat_lt x)]
theorem u8lt (x : UInt8) : x.toNat < 256 := UInt8.toNat_lt x

/-- A number, seven bits a byte, the last byte below 128. -/
def num (n : Nat) : List UInt8 := if n < 128 then [byt n] else byt (128 + n % 128) :: num (n / 128)
termination_by n
decreasing_by omega
theorem num_small {n : Nat} (h : n < 128) : num n = [byt n] := by rw [num, if_pos h]
theorem num_large {n : Nat} (h : ¬ n < 128) : num n = byt (128 + n % 128) :: num (n / 128) := by rw [num, if_neg h]
theorem num_ne (n : Nat) : num n ≠ [] := by
  by_cases h : n < 128
  · rw [num_small h]; simp
  · rw [num_large h]; simp
theorem num_pos (n : Nat) : 0 < (num n).length := List.length_pos_iff.2 (num_ne n)
theorem num_len : ∀ (k n : Nat), n < 128 ^ (k + 1) → (num n).length ≤ k + 1
  | 0, n, h => by rw [num_small (by simpa using h)]; simp
  | k + 1, n, h => by
    by_cases hs : n < 128
    · rw [num_small hs]; simp
    · rw [num_large hs]
      have := num_len k (n / 128) (by rw [Nat.div_lt_iff_lt_mul (by omega), ← Nat.pow_succ]; exact h)
      simp; omega
theorem num_len64 {n : Nat} (h : n < 2 ^ 64) : (num n).length ≤ 10 := num_len 9 n (Nat.lt_trans h (by decide))

/-- A number read off, of whatever size; none where the bytes end or the form is not the shortest. -/
def getAny : List UInt8 → Option (Nat × List UInt8)
  | [] => none
  | x :: t => if x.toNat < 128 then some (x.toNat, t) else
    match getAny t with
    | none => none
    | some (n, u) => if n = 0 then none else some (x.toNat - 128 + 128 * n, u)
theorem getAny_num : ∀ (n : Nat) (t : List UInt8), getAny (num n ++ t) = some (n, t) := by
  intro n
  induction n using Nat.strongRecOn with
  | ind n ih =>
    intro t
    by_cases h : n < 128
    · rw [num_small h, List.singleton_append, getAny, if_pos (by rw [byt_nat (by omega)]; exact h), byt_nat (by omega)]
    · rw [num_large h, List.cons_append, getAny, if_neg (by rw [byt_nat (by omega)]; omega), ih (n / 128) (by omega) t]
      simp only []
      rw [if_neg (by omega), byt_nat (by omega)]
      congr 2
      omega
theorem getAny_iff {xs t : List UInt8} {n : Nat} : getAny xs = some (n, t) ↔ xs = num n ++ t := by
  constructor
  · induction xs generalizing n t with
    | nil => intro h; cases h
    | cons x l ih =>
      intro h
      rw [getAny] at h
      by_cases hx : x.toNat < 128
      · rw [if_pos hx] at h
        simp only [Option.some.injEq, Prod.mk.injEq] at h
        obtain ⟨rfl, rfl⟩ := h
        rw [num_small hx, byt_self]; rfl
      · rw [if_neg hx] at h
        cases hg : getAny l with
        | none => rw [hg] at h; cases h
        | some p =>
          obtain ⟨m, u⟩ := p
          rw [hg] at h
          simp only [] at h
          by_cases hm : m = 0
          · rw [if_pos hm] at h; cases h
          · rw [if_neg hm] at h
            simp only [Option.some.injEq, Prod.mk.injEq] at h
            obtain ⟨rfl, rfl⟩ := h
            have hx2 := u8lt x
            rw [num_large (by omega), show (x.toNat - 128 + 128 * m) / 128 = m by omega, show 128 + (x.toNat - 128 + 128 * m) % 128 = x.toNat by omega, byt_self, ih hg]
            rfl
  · rintro rfl
    exact getAny_num n t
/-- A number below 2^64 read off. -/
def getNum (xs : List UInt8) : Option (Nat × List UInt8) :=
  match getAny xs with
  | none => none
  | some (n, t) => if n < 2 ^ 64 then some (n, t) else none
theorem getNum_iff {xs t : List UInt8} {n : Nat} : getNum xs = some (n, t) ↔ n < 2 ^ 64 ∧ xs = num n ++ t := by
  unfold getNum
  cases hg : getAny xs with
  | none =>
    simp only []
    constructor
    · intro h; cases h
    · rintro ⟨_, h⟩
      rw [getAny_iff.2 h] at hg; cases hg
  | some p =>
    obtain ⟨m, u⟩ := p
    have h1 := getAny_iff.1 hg
    simp only []
    constructor
    · intro h
      split at h
      · simp only [Option.some.injEq, Prod.mk.injEq] at h
        obtain ⟨rfl, rfl⟩ := h
        exact ⟨by assumption, h1⟩
      · cases h
    · rintro ⟨h2, h3⟩
      rw [getAny_iff.2 h3] at hg
      simp only [Option.some.injEq, Prod.mk.injEq] at hg
      obtain ⟨rfl, rfl⟩ := hg
      rw [if_pos h2]
theorem getNum_num {n : Nat} (h : n < 2 ^ 64) (t : List UInt8) : getNum (num n ++ t) = some (n, t) := getNum_iff.2 ⟨h, rfl⟩
theorem num_split {n m : Nat} {s t : List UInt8} (h : num n ++ s = num m ++ t) : n = m ∧ s = t := by
  have h1 := getAny_num n s
  rw [h, getAny_num m t] at h1
  simp only [Option.some.injEq, Prod.mk.injEq] at h1
  exact ⟨h1.1.symm, h1.2.symm⟩

/-- A string with its length ahead. -/
def strB (s : List UInt8) : List UInt8 := num s.length ++ s
def getStr (xs : List UInt8) : Option (List UInt8 × List UInt8) :=
  match getNum xs with
  | none => none
  | some (n, t) => if n ≤ t.length then some (t.take n, t.drop n) else none
theorem getStr_iff {xs s t : List UInt8} : getStr xs = some (s, t) ↔ s.length < 2 ^ 64 ∧ xs = strB s ++ t := by
  unfold getStr strB
  cases hg : getNum xs with
  | none =>
    simp only []
    constructor
    · intro h; cases h
    · rintro ⟨h1, h⟩
      rw [List.append_assoc] at h
      rw [getNum_iff.2 ⟨h1, h⟩] at hg; cases hg
  | some p =>
    obtain ⟨m, u⟩ := p
    obtain ⟨h1, h2⟩ := getNum_iff.1 hg
    simp only []
    constructor
    · intro h
      split at h
      · next hm =>
        simp only [Option.some.injEq, Prod.mk.injEq] at h
        obtain ⟨rfl, rfl⟩ := h
        rw [List.length_take, Nat.min_eq_left hm]
        exact ⟨h1, by rw [List.append_assoc, List.take_append_drop]; exact h2⟩
      · cases h
    · rintro ⟨h3, h4⟩
      rw [List.append_assoc] at h4
      rw [getNum_iff.2 ⟨h3, h4⟩] at hg
      simp only [Option.some.injEq, Prod.mk.injEq] at hg
      obtain ⟨rfl, rfl⟩ := hg
      rw [if_pos (by simp)]
      simp
theorem getStr_str {s : List UInt8} (h : s.length < 2 ^ 64) (t : List UInt8) : getStr (strB s ++ t) = some (s, t) := getStr_iff.2 ⟨h, rfl⟩

/-- A number in four bytes, the least first. -/
def fixed (n : Nat) : List UInt8 := [byt (n % 256), byt (n / 256 % 256), byt (n / 65536 % 256), byt (n / 16777216 % 256)]
theorem fixed_len (n : Nat) : (fixed n).length = 4 := rfl
def fix4 (a b c d : UInt8) : Nat := a.toNat + 256 * b.toNat + 65536 * c.toNat + 16777216 * d.toNat
theorem fix4_lt (a b c d : UInt8) : fix4 a b c d < 2 ^ 32 := by
  have := u8lt a; have := u8lt b; have := u8lt c; have := u8lt d
  unfold fix4; omega
theorem fix4_fixed {n : Nat} (h : n < 2 ^ 32) : fix4 (byt (n % 256)) (byt (n / 256 % 256)) (byt (n / 65536 % 256)) (byt (n / 16777216 % 256)) = n := by
  unfold fix4
  rw [byt_nat (by omega), byt_nat (by omega), byt_nat (by omega), byt_nat (by omega)]
  omega
theorem fixed_fix4 (a b c d : UInt8) : fixed (fix4 a b c d) = [a, b, c, d] := by
  have ha := u8lt a; have hb := u8lt b; have hc := u8lt c; have hd := u8lt d
  unfold fixed fix4
  rw [show (a.toNat + 256 * b.toNat + 65536 * c.toNat + 16777216 * d.toNat) % 256 = a.toNat by omega,
    show (a.toNat + 256 * b.toNat + 65536 * c.toNat + 16777216 * d.toNat) / 256 % 256 = b.toNat by omega,
    show (a.toNat + 256 * b.toNat + 65536 * c.toNat + 16777216 * d.toNat) / 65536 % 256 = c.toNat by omega,
    show (a.toNat + 256 * b.toNat + 65536 * c.toNat + 16777216 * d.toNat) / 16777216 % 256 = d.toNat by omega]
  simp only [byt_self]
/-- The four bytes at a place, as a number. -/
def fixAt (xs : List UInt8) (i : Nat) : Nat := fix4 (xs.getD i 0) (xs.getD (i + 1) 0) (xs.getD (i + 2) 0) (xs.getD (i + 3) 0)
theorem fixAt_lt (xs : List UInt8) (i : Nat) : fixAt xs i < 2 ^ 32 := fix4_lt _ _ _ _
theorem fixAt_fixed {n : Nat} (h : n < 2 ^ 32) (xs t : List UInt8) : fixAt (xs ++ (fixed n ++ t)) xs.length = n := by
  unfold fixAt fixed
  simp only [List.getD_eq_getElem?_getD, List.getElem?_append_right (Nat.le_refl _), List.getElem?_append_right (show xs.length ≤ xs.length + 1 by omega), List.getElem?_append_right (show xs.length ≤ xs.length + 2 by omega), List.getElem?_append_right (show xs.length ≤ xs.length + 3 by omega), Nat.sub_self, Nat.add_sub_cancel_left]
  exact fix4_fixed h

/-- How many bytes two strings have in common at their beginning. -/
def shared : List UInt8 → List UInt8 → Nat
  | x :: s, y :: t => if x = y then shared s t + 1 else 0
  | _, _ => 0
theorem shared_le : ∀ (s t : List UInt8), shared s t ≤ s.length ∧ shared s t ≤ t.length
  | [], _ => by simp [shared]
  | _ :: _, [] => by simp [shared]
  | x :: s, y :: t => by
    have := shared_le s t
    unfold shared
    split <;> simp <;> omega
theorem shared_take : ∀ (s t : List UInt8), s.take (shared s t) = t.take (shared s t)
  | [], _ => by simp [shared]
  | _ :: _, [] => by simp [shared]
  | x :: s, y :: t => by
    unfold shared
    split
    · next h => rw [List.take_succ_cons, List.take_succ_cons, shared_take s t, h]
    · rfl
/-- The loop's own words: one more in common. -/
theorem shared_iff : ∀ (s t : List UInt8) (n : Nat), n ≤ s.length → n ≤ t.length → s.take n = t.take n → (n = s.length ∨ n = t.length ∨ s[n]? ≠ t[n]?) → shared s t = n
  | [], t, n, h1, _, _, _ => by simp at h1; subst h1; simp [shared]
  | x :: s, [], n, _, h2, _, _ => by simp at h2; subst h2; simp [shared]
  | x :: s, y :: t, 0, _, _, _, h4 => by
    unfold shared
    rw [if_neg]
    rintro rfl
    simp at h4
  | x :: s, y :: t, n + 1, h1, h2, h3, h4 => by
    rw [List.take_succ_cons, List.take_succ_cons] at h3
    obtain ⟨rfl, h5⟩ := List.cons.inj h3
    unfold shared
    rw [if_pos rfl, shared_iff s t n (by simpa using h1) (by simpa using h2) h5 (by simpa using h4)]
end Go.Proofs.Ytlgeffinhbodeac

/-
  The checksum of a list of bytes (mathematics).
-/
namespace Go.Proofs.Ytlgeffinhbodeac
set_option linter.unusedVariables false
set_option linter.unusedSimpArgs false

/-- One bit. -/
def sh (c : BitVec 32) : BitVec 32 := if c.toNat % 2 = 1 then (c >>> 1) ^^^ 3988292384#32 else c >>> 1
def shN : Nat → BitVec 32 → BitVec 32
  | 0, c => c
  | k + 1, c => sh (shN k c)
/-- One byte. -/
def crcB (c : BitVec 32) (x : UInt8) : BitVec 32 := shN 8 (c ^^^ BitVec.ofNat 32 x.toNat)
def crcTo (c : BitVec 32) (xs : List UInt8) : BitVec 32 := xs.foldl crcB c
def crc (xs : List UInt8) : BitVec 32 := crcTo 4294967295#32 xs ^^^ 4294967295#32
theorem crcTo_snoc (c : BitVec 32) (xs : List UInt8) (x : UInt8) : crcTo c (xs ++ [x]) = crcB (crcTo c xs) x := by simp [crcTo]
theorem crcTo_append (c : BitVec 32) (xs ys : List UInt8) : crcTo c (xs ++ ys) = crcTo (crcTo c xs) ys := by simp [crcTo]

theorem bit0 (c : BitVec 32) : c.getLsbD 0 = decide (c.toNat % 2 = 1) := by
  unfold BitVec.getLsbD
  exact Nat.testBit_zero _
theorem sh_inj {a b : BitVec 32} (h : sh a = sh b) : a = b := by
  have top : ∀ c : BitVec 32, (sh c).getLsbD 31 = c.getLsbD 0 := by
    intro c
    unfold sh
    by_cases h : c.toNat % 2 = 1
    · rw [if_pos h, BitVec.getLsbD_xor, BitVec.getLsbD_ushiftRight, BitVec.getLsbD_of_ge c (1 + 31) (by omega)]
      have : c.getLsbD 0 = true := by rw [bit0]; simp [h]
      rw [this]; decide
    · rw [if_neg h, BitVec.getLsbD_ushiftRight, BitVec.getLsbD_of_ge c (1 + 31) (by omega)]
      have : c.getLsbD 0 = false := by rw [bit0]; simp [h]
      rw [this]
  have low : a.getLsbD 0 = b.getLsbD 0 := by rw [← top a, ← top b, h]
  have par : (a.toNat % 2 = 1) ↔ (b.toNat % 2 = 1) := by
    rw [bit0, bit0] at low
    exact decide_eq_decide.1 low
  have hs : a >>> 1 = b >>> 1 := by
    unfold sh at h
    by_cases q : a.toNat % 2 = 1
    · rw [if_pos q, if_pos (par.1 q)] at h
      exact (BitVec.xor_left_inj _).1 h
    · rw [if_neg q, if_neg (fun r => q (par.2 r))] at h
      exact h
  apply BitVec.eq_of_getLsbD_eq
  intro i hi
  cases i with
  | zero => exact low
  | succ i =>
    have := congrArg (fun x => x.getLsbD i) hs
    simp only [BitVec.getLsbD_ushiftRight] at this
    rw [Nat.add_comm]; exact this
theorem shN_inj : ∀ (k : Nat) {a b : BitVec 32}, shN k a = shN k b → a = b
  | 0, _, _, h => h
  | k + 1, _, _, h => shN_inj k (sh_inj h)
theorem crcB_inj {a b : BitVec 32} {x : UInt8} (h : crcB a x = crcB b x) : a = b := (BitVec.xor_left_inj _).1 (shN_inj 8 h)
theorem crcTo_inj : ∀ (xs : List UInt8) {a b : BitVec 32}, crcTo a xs = crcTo b xs → a = b
  | [], _, _, h => h
  | x :: xs, a, b, h => crcB_inj (crcTo_inj xs (show crcTo (crcB a x) xs = crcTo (crcB b x) xs from h))
/-- One byte changed: another checksum. -/
theorem crc_one {xs ys : List UInt8} {a b : UInt8} (hab : ¬ a = b) : ¬ crc (xs ++ a :: ys) = crc (xs ++ b :: ys) := by
  intro h
  have h1 := (BitVec.xor_left_inj _).1 h
  rw [crcTo_append, crcTo_append] at h1
  have h2 : crcB (crcTo 4294967295#32 xs) a = crcB (crcTo 4294967295#32 xs) b := crcTo_inj ys h1
  have h3 := (BitVec.xor_right_inj _).1 (shN_inj 8 h2)
  apply hab
  apply UInt8.toNat_inj.1
  have h4 := congrArg BitVec.toNat h3
  have ha := u8lt a
  have hb := u8lt b
  rw [BitVec.toNat_ofNat, BitVec.toNat_ofNat, Nat.mod_eq_of_lt (by omega), Nat.mod_eq_of_lt (by omega)] at h4
  exact h4
end Go.Proofs.Ytlgeffinhbodeac

