import Derived.Lib.Bytealg
import Derived.Lib.Slices
import Derived.Lib.Walk
import Derived.Deep.QuietTactic
import Derived.BigQuiet
import Derived.Deep.DeepCutAuto
import Derived.Deep.RegionWith
import Derived.Lib.ItoaNum
import Derived.Deep.RegionHeld3
import Derived.Test.YtgnpcenpcmdlfaaGreatDoorPkAA
import Derived.Test.YtgnpcenpcmdlfaaGreatDoorPkAE
import Derived.Test.YtgnpcenpcmdlfaaGreatDoorPkAD
/-
  Bytes of a run's file: numbers, strings, fixed numbers, as lists (mathematics).
-/
namespace Go.Proofs.YtgnpcenpcmdlfaaGreatDoor
set_option linter.unusedVariables false
set_option linter.unusedSimpArgs false

/-- The byte of a number. -/
def byt (n : Nat) : UInt8 := UInt8.ofNat n
theorem byt_nat {n : Nat} (h : n < 256) : (byt n).toNat = n := by
  unfold byt
  rw [UInt8.toNat_ofNat']
  exact Nat.mod_eq_of_lt h
theorem byt_self (x : UInt8) : byt x.toNat = x := by
  apply UInt8.toNat_inj.1
  rw [byt_nat (UInt8.toNat_lt x)]
theorem u8lt (x : UInt8) : x.toNat < 256 := UInt8.toNat_lt x

/-- A number, seven bits a byte, the last byte below 128. -/
def num (n : Nat) : List UInt8 := if n < 128 then [byt n] else byt (128 + n % 128) :: num (n / 128)
termination_by n
decreasing_by omega
theorem num_small {n : Nat} (h : n < 128) : num n = [byt n] := by rw [num, if_pos h]
theorem num_large {n : Nat} (h : ¬ n < 128) : num n = byt (128 + n % 128) :: num (n / 128) := by rw [num, if_neg h]
theorem num_ne (n : Nat) : num n ≠ [] := by
  by_cases h : n < 128
  · rw [num_small h]; simp
  · rw [num_large h]; simp
theorem num_pos (n : Nat) : 0 < (num n).length := List.length_pos_iff.2 (num_ne n)
theorem num_len : ∀ (k n : Nat), n < 128 ^ (k + 1) → (num n).length ≤ k + 1
  | 0, n, h => by rw [num_small (by simpa using h)]; simp
  | k + 1, n, h => by
    by_cases hs : n < 128
    · rw [num_small hs]; simp
    · rw [num_large hs]
      have := num_len k (n / 128) (by rw [Nat.div_lt_iff_lt_mul (by omega), ← Nat.pow_succ]; exact h)
      simp; omega
theorem num_len64 {n : Nat} (h : n < 2 ^ 64) : (num n).length ≤ 10 := num_len 9 n (Nat.lt_trans h (by decide))

/-- A number read off, of whatever size; none where the bytes end or the form is not the shortest. -/
def getAny : List UInt8 → Option (Nat × List UInt8)
  | [] => none
  | x :: t => if x.toNat < 128 then some (x.toNat, t) else
    match getAny t with
    | none => none
    | some (n, u) => if n = 0 then none else some (x.toNat - 128 + 128 * n, u)
theorem getAny_num : ∀ (n : Nat) (t : List UInt8), getAny (num n ++ t) = some (n, t) := by
  intro n
  induction n using Nat.strongRecOn with
  | ind n ih =>
    intro t
    by_cases h : n < 128
    · rw [num_small h, List.singleton_append, getAny, if_pos (by rw [byt_nat (by omega)]; exact h), byt_nat (by omega)]
    · rw [num_large h, List.cons_append, getAny, if_neg (by rw [byt_nat (by omega)]; omega), ih (n / 128) (by omega) t]
      simp only []
      rw [if_neg (by omega), byt_nat (by omega)]
      congr 2
      omega
theorem getAny_iff {xs t : List UInt8} {n : Nat} : getAny xs = some (n, t) ↔ xs = num n ++ t := by
  constructor
  · induction xs generalizing n t with
    | nil => intro h; cases h
    | cons x l ih =>
      intro h
      rw [getAny] at h
      by_cases hx : x.toNat < 128
      · rw [if_pos hx] at h
        simp only [Option.some.injEq, Prod.mk.injEq] at h
        obtain ⟨rfl, rfl⟩ := h
        rw [num_small hx, byt_self]; rfl
      · rw [if_neg hx] at h
        cases hg : getAny l with
        | none => rw [hg] at h; cases h
        | some p =>
          obtain ⟨m, u⟩ := p
          rw [hg] at h
          simp only [] at h
          by_cases hm : m = 0
          · rw [if_pos hm] at h; cases h
          · rw [if_neg hm] at h
            simp only [Option.some.injEq, Prod.mk.injEq] at h
            obtain ⟨rfl, rfl⟩ := h
            have hx2 := u8lt x
            rw [num_large (by omega), show (x.toNat - 128 + 128 * m) / 128 = m by omega, show 128 + (x.toNat - 128 + 128 * m) % 128 = x.toNat by omega, byt_self, ih hg]
            rfl
  · rintro rfl
    exact getAny_num n t
/-- A number below 2^64 read off. -/
def getNum (xs : List UInt8) : Option (Nat × List UInt8) :=
  match getAny xs with
  | none => none
  | some (n, t) => if n < 2 ^ 64 then some (n, t) else none
theorem getNum_iff {xs t : List UInt8} {n : Nat} : getNum xs = some (n, t) ↔ n < 2 ^ 64 ∧ xs = num n ++ t := by
  unfold getNum
  cases hg : getAny xs with
  | none =>
    simp only []
    constructor
    · intro h; cases h
    · rintro ⟨_, h⟩
      rw [getAny_iff.2 h] at hg; cases hg
  | some p =>
    obtain ⟨m, u⟩ := p
    have h1 := getAny_iff.1 hg
    simp only []
    constructor
    · intro h
      split at h
      · simp only [Option.some.injEq, Prod.mk.injEq] at h
        obtain ⟨rfl, rfl⟩ := h
        exact ⟨by assumption, h1⟩
      · cases h
    · rintro ⟨h2, h3⟩
      rw [getAny_iff.2 h3] at hg
      simp only [Option.some.injEq, Prod.mk.injEq] at hg
      obtain ⟨rfl, rfl⟩ := hg
      rw [if_pos h2]
theorem getNum_num {n : Nat} (h : n < 2 ^ 64) (t : List UInt8) : getNum (num n ++ t) = some (n, t) := getNum_iff.2 ⟨h, rfl⟩
theorem num_split {n m : Nat} {s t : List UInt8} (h : num n ++ s = num m ++ t) : n = m ∧ s = t := by
  have h1 := getAny_num n s
  rw [h, getAny_num m t] at h1
  simp only [Option.some.injEq, Prod.mk.injEq] at h1
  exact ⟨h1.1.symm, h1.2.symm⟩

/-- A string with its length ahead. -/
def strB (s : List UInt8) : List UInt8 := num s.length ++ s
def getStr (xs : List UInt8) : Option (List UInt8 × List UInt8) :=
  match getNum xs with
  | none => none
  | some (n, t) => if n ≤ t.length then some (t.take n, t.drop n) else none
theorem getStr_iff {xs s t : List UInt8} : getStr xs = some (s, t) ↔ s.length < 2 ^ 64 ∧ xs = strB s ++ t := by
  unfold getStr strB
  cases hg : getNum xs with
  | none =>
    simp only []
    constructor
    · intro h; cases h
    · rintro ⟨h1, h⟩
      rw [List.append_assoc] at h
      rw [getNum_iff.2 ⟨h1, h⟩] at hg; cases hg
  | some p =>
    obtain ⟨m, u⟩ := p
    obtain ⟨h1, h2⟩ := getNum_iff.1 hg
    simp only []
    constructor
    · intro h
      split at h
      · next hm =>
        simp only [Option.some.injEq, Prod.mk.injEq] at h
        obtain ⟨rfl, rfl⟩ := h
        rw [List.length_take, Nat.min_eq_left hm]
        exact ⟨h1, by rw [List.append_assoc, List.take_append_drop]; exact h2⟩
      · cases h
    · rintro ⟨h3, h4⟩
      rw [List.append_assoc] at h4
      rw [getNum_iff.2 ⟨h3, h4⟩] at hg
      simp only [Option.some.injEq, Prod.mk.injEq] at hg
      obtain ⟨rfl, rfl⟩ := hg
      rw [if_pos (by simp)]
      simp
theorem getStr_str {s : List UInt8} (h : s.length < 2 ^ 64) (t : List UInt8) : getStr (strB s ++ t) = some (s, t) := getStr_iff.2 ⟨h, rfl⟩

/-- A number in four bytes, the least first. -/
def fixed (n : Nat) : List UInt8 := [byt (n % 256), byt (n / 256 % 256), byt (n / 65536 % 256), byt (n / 16777216 % 256)]
theorem fixed_len (n : Nat) : (fixed n).length = 4 := rfl
def fix4 (a b c d : UInt8) : Nat := a.toNat + 256 * b.toNat + 65536 * c.toNat + 16777216 * d.toNat
theorem fix4_lt (a b c d : UInt8) : fix4 a b c d < 2 ^ 32 := by
  have := u8lt a; have := u8lt b; have := u8lt c; have := u8lt d
  unfold fix4; omega
theorem fix4_fixed {n : Nat} (h : n < 2 ^ 32) : fix4 (byt (n % 256)) (byt (n / 256 % 256)) (byt (n / 65536 % 256)) (byt (n / 16777216 % 256)) = n := by
  unfold fix4
  rw [byt_nat (by omega), byt_nat (by omega), byt_nat (by omega), byt_nat (by omega)]
  omega
theorem fixed_fix4 (a b c d : UInt8) : fixed (fix4 a b c d) = [a, b, c, d] := by
  have ha := u8lt a; have hb := u8lt b; have hc := u8lt c; have hd := u8lt d
  unfold fixed fix4
  rw [show (a.toNat + 256 * b.toNat + 65536 * c.toNat + 16777216 * d.toNat) % 256 = a.toNat by omega,
    show (a.toNat + 256 * b.toNat + 65536 * c.toNat + 16777216 * d.toNat) / 256 % 256 = b.toNat by omega,
    show (a.toNat + 256 * b.toNat + 65536 * c.toNat + 16777216 * d.toNat) / 65536 % 256 = c.toNat by omega,
    show (a.toNat + 256 * b.toNat + 65536 * c.toNat + 16777216 * d.toNat) / 16777216 % 256 = d.toNat by omega]
  simp only [byt_self]
/-- The four bytes at a place, as a number. -/
def fixAt (xs : List UInt8) (i : Nat) : Nat := fix4 (xs.getD i 0) (xs.getD (i + 1) 0) (xs.getD (i + 2) 0) (xs.getD (i + 3) 0)
theorem fixAt_lt (xs : List UInt8) (i : Nat) : fixAt xs i < 2 ^ 32 := fix4_lt _ _ _ _
theorem fixAt_fixed {n : Nat} (h : n < 2 ^ 32) (xs t : List UInt8) : fixAt (xs ++ (fixed n ++ t)) xs.length = n := by
  unfold fixAt fixed
  simp only [List.getD_eq_getElem?_getD, List.getElem?_append_right (Nat.le_refl _), List.getElem?_append_right (show xs.length ≤ xs.length + 1 by omega), List.getElem?_append_right (show xs.length ≤ xs.length + 2 by omega), List.getElem?_append_right (show xs.length ≤ xs.length + 3 by omega), Nat.sub_self, Nat.add_sub_cancel_left]
  exact fix4_fixed h

/-- How many bytes two strings have in common at their beginning. -/
def shared : List UInt8 → List UInt8 → Nat
  | x :: s, y :: t => if x = y then shared s t + 1 else 0
  | _, _ => 0
theorem shared_le : ∀ (s t : List UInt8), shared s t ≤ s.length ∧ shared s t ≤ t.length
  | [], _ => by simp [shared]
  | _ :: _, [] => by simp [shared]
  | x :: s, y :: t => by
    have := shared_le s t
    unfold shared
    split <;> simp <;> omega
theorem shared_take : ∀ (s t : List UInt8), s.take (shared s t) = t.take (shared s t)
  | [], _ => by simp [shared]
  | _ :: _, [] => by simp [shared]
  | x :: s, y :: t => by
    unfold shared
    split
    · next h => rw [List.take_succ_cons, List.take_succ_cons, shared_take s t, h]
    · rfl
/-- The loop's own words: one more in common. -/
theorem shared_iff : ∀ (s t : List UInt8) (n : Nat), n ≤ s.length → n ≤ t.length → s.take n = t.take n → (n = s.length ∨ n = t.length ∨ s[n]? ≠ t[n]?) → shared s t = n
  | [], t, n, h1, _, _, _ => by simp at h1; subst h1; simp [shared]
  | x :: s, [], n, _, h2, _, _ => by simp at h2; subst h2; simp [shared]
  | x :: s, y :: t, 0, _, _, _, h4 => by
    unfold shared
    rw [if_neg]
    rintro rfl
    simp at h4
  | x :: s, y :: t, n + 1, h1, h2, h3, h4 => by
    rw [List.take_succ_cons, List.take_succ_cons] at h3
    obtain ⟨rfl, h5⟩ := List.cons.inj h3
    unfold shared
    rw [if_pos rfl, shared_iff s t n (by simpa using h1) (by simpa using h2) h5 (by simpa using h4)]
end Go.Proofs.YtgnpcenpcmdlfaaGreatDoor

/-
  The checksum of a list of bytes (mathematics).
-/
namespace Go.Proofs.YtgnpcenpcmdlfaaGreatDoor
set_option linter.unusedVariables false
set_option linter.unusedSimpArgs false

/-- One bit. -/
def sh (c : BitVec 32) : BitVec 32 := if c.toNat % 2 = 1 then (c >>> 1) ^^^ 3988292384#32 else c >>> 1
def shN : Nat → BitVec 32 → BitVec 32
  | 0, c => c
  | k + 1, c => sh (shN k c)
/-- One byte. -/
def crcB (c : BitVec 32) (x : UInt8) : BitVec 32 := shN 8 (c ^^^ BitVec.ofNat 32 x.toNat)
def crcTo (c : BitVec 32) (xs : List UInt8) : BitVec 32 := xs.foldl crcB c
def crc (xs : List UInt8) : BitVec 32 := crcTo 4294967295#32 xs ^^^ 4294967295#32
theorem crcTo_snoc (c : BitVec 32) (xs : List UInt8) (x : UInt8) : crcTo c (xs ++ [x]) = crcB (crcTo c xs) x := by simp [crcTo]
theorem crcTo_append (c : BitVec 32) (xs ys : List UInt8) : crcTo c (xs ++ ys) = crcTo (crcTo c xs) ys := by simp [crcTo]

theorem bit0 (c : BitVec 32) : c.getLsbD 0 = decide (c.toNat % 2 = 1) := by
  unfold BitVec.getLsbD
  exact Nat.testBit_zero _
theorem sh_inj {a b : BitVec 32} (h : sh a = sh b) : a = b := by
  have top : ∀ c : BitVec 32, (sh c).getLsbD 31 = c.getLsbD 0 := by
    intro c
    unfold sh
    by_cases h : c.toNat % 2 = 1
    · rw [if_pos h, BitVec.getLsbD_xor, BitVec.getLsbD_ushiftRight, BitVec.getLsbD_of_ge c (1 + 31) (by omega)]
      have : c.getLsbD 0 = true := by rw [bit0]; simp [h]
      rw [this]; decide
    · rw [if_neg h, BitVec.getLsbD_ushiftRight, BitVec.getLsbD_of_ge c (1 + 31) (by omega)]
      have : c.getLsbD 0 = false := by rw [bit0]; simp [h]
      rw [this]
  have low : a.getLsbD 0 = b.getLsbD 0 := by rw [← top a, ← top b, h]
  have par : (a.toNat % 2 = 1) ↔ (b.toNat % 2 = 1) := by
    rw [bit0, bit0] at low
    exact decide_eq_decide.1 low
  have hs : a >>> 1 = b >>> 1 := by
    unfold sh at h
    by_cases q : a.toNat % 2 = 1
    · rw [if_pos q, if_pos (par.1 q)] at h
      exact (BitVec.xor_left_inj _).1 h
    · rw [if_neg q, if_neg (fun r => q (par.2 r))] at h
      exact h
  apply BitVec.eq_of_getLsbD_eq
  intro i hi
  cases i with
  | zero => exact low
  | succ i =>
    have := congrArg (fun x => x.getLsbD i) hs
    simp only [BitVec.getLsbD_ushiftRight] at this
    rw [Nat.add_comm]; exact this
theorem shN_inj : ∀ (k : Nat) {a b : BitVec 32}, shN k a = shN k b → a = b
  | 0, _, _, h => h
  | k + 1, _, _, h => shN_inj k (sh_inj h)
theorem crcB_inj {a b : BitVec 32} {x : UInt8} (h : crcB a x = crcB b x) : a = b := (BitVec.xor_left_inj _).1 (shN_inj 8 h)
theorem crcTo_inj : ∀ (xs : List UInt8) {a b : BitVec 32}, crcTo a xs = crcTo b xs → a = b
  | [], _, _, h => h
  | x :: xs, a, b, h => crcB_inj (crcTo_inj xs (show crcTo (crcB a x) xs = crcTo (crcB b x) xs from h))
/-- One byte changed: another checksum. -/
theorem crc_one {xs ys : List UInt8} {a b : UInt8} (hab : ¬ a = b) : ¬ crc (xs ++ a :: ys) = crc (xs ++ b :: ys) := by
  intro h
  have h1 := (BitVec.xor_left_inj _).1 h
  rw [crcTo_append, crcTo_append] at h1
  have h2 : crcB (crcTo 4294967295#32 xs) a = crcB (crcTo 4294967295#32 xs) b := crcTo_inj ys h1
  have h3 := (BitVec.xor_right_inj _).1 (shN_inj 8 h2)
  apply hab
  apply UInt8.toNat_inj.1
  have h4 := congrArg BitVec.toNat h3
  have ha := u8lt a
  have hb := u8lt b
  rw [BitVec.toNat_ofNat, BitVec.toNat_ofNat, Nat.mod_eq_of_lt (by omega), Nat.mod_eq_of_lt (by omega)] at h4
  exact h4
end Go.Proofs.YtgnpcenpcmdlfaaGreatDoor

/-
  The order of keys: spec.CompareKeys and impl.CompareKeys come to one Lean function.
-/
namespace Go.Proofs.YtgnpcenpcmdlfaaGreatDoor
open Go.ChangeShapes Go.WideShapes Go.ChangeAt Go.RowKit Go.Deep

/-- Two strings against each other. -/
def cB (a b : ByteArray) : Int := Lib.compareBytes a.data.toList b.data.toList

theorem compareBytes_less : ∀ a b : List UInt8, Op.bytesLess a b = true → Lib.compareBytes a b = -1
  | [], [] => by simp [Op.bytesLess]
  | [], _ :: _ => by simp [Lib.compareBytes]
  | _ :: _, [] => by simp [Op.bytesLess]
  | a :: x, b :: y => by
    intro h
    simp only [Op.bytesLess, Bool.or_eq_true, decide_eq_true_eq, Bool.and_eq_true, beq_iff_eq] at h
    unfold Lib.compareBytes
    rcases h with h | ⟨rfl, h⟩
    · rw [if_pos h]
    · have hn : ¬ a < a := by simp
      rw [if_neg hn, if_neg hn]; exact compareBytes_less x y h
theorem compareBytes_self : ∀ a : List UInt8, Lib.compareBytes a a = 0
  | [] => rfl
  | a :: x => by
    unfold Lib.compareBytes
    have hn : ¬ a < a := by simp
    rw [if_neg hn, if_neg hn]; exact compareBytes_self x
theorem compareBytes_more : ∀ a b : List UInt8, Op.bytesLess a b = false → (a == b) = false → Lib.compareBytes a b = 1
  | [], [] => by simp
  | [], _ :: _ => by simp [Op.bytesLess]
  | _ :: _, [] => by simp [Lib.compareBytes]
  | a :: x, b :: y => by
    intro h h2
    simp only [Op.bytesLess, Bool.or_eq_false_iff, decide_eq_false_iff_not] at h
    unfold Lib.compareBytes
    rw [if_neg h.1]
    by_cases hb : b < a
    · rw [if_pos hb]
    · rw [if_neg hb]
      have hab : a = b := by
        have h1 := h.1
        rw [UInt8.lt_iff_toNat_lt] at h1 hb
        exact UInt8.toNat_inj.1 (by omega)
      subst hab
      refine compareBytes_more x y ?_ ?_
      · simpa using h.2
      · simpa using h2
theorem compareBytes_vals (a b : List UInt8) : Lib.compareBytes a b = -1 ∨ Lib.compareBytes a b = 0 ∨ Lib.compareBytes a b = 1 := by
  cases h : Op.bytesLess a b
  · cases h2 : (a == b)
    · exact .inr (.inr (compareBytes_more a b h h2))
    · rw [beq_iff_eq] at h2; subst h2; exact .inr (.inl (compareBytes_self a))
  · exact .inl (compareBytes_less a b h)
theorem cB_vals (a b : ByteArray) : cB a b = -1 ∨ cB a b = 0 ∨ cB a b = 1 := compareBytes_vals _ _
theorem cB_less {a b : ByteArray} (h : Op.bytesLess a.toList b.toList = true) : cB a b = -1 := by
  rw [ByteArray.toList_eq, ByteArray.toList_eq] at h; exact compareBytes_less _ _ h
theorem cB_more {a b : ByteArray} (h : Op.bytesLess a.toList b.toList = false) (h2 : (a.toList == b.toList) = false) : cB a b = 1 := by
  rw [ByteArray.toList_eq, ByteArray.toList_eq] at h h2; exact compareBytes_more _ _ h h2
theorem cB_same {a b : ByteArray} (h2 : (a.toList == b.toList) = true) : cB a b = 0 := by
  rw [ByteArray.toList_eq, ByteArray.toList_eq, beq_iff_eq] at h2; unfold cB; rw [h2]; exact compareBytes_self _

def firstOf (a b : Int) : Int := if a = 0 then b else a
def kindCmp (k l : Int) : Int := if k = 2 then (if l = 2 then 0 else -1) else (if l = 2 then 1 else 0)
def tsCmp (t u : Int) : Int := if u < t then -1 else if t < u then 1 else 0
/-- The order of keys. -/
def keyCmp (a b : Ent) : Int := firstOf (cB a.row b.row) (firstOf (cB a.fam b.fam) (firstOf (cB a.qual b.qual) (firstOf (kindCmp a.kind b.kind) (tsCmp a.ts b.ts))))

theorem ret_int {k : IntKind} {a b : Int} (h : a = b) : Ending.returned (.int k a) = .returned (.int k b) := by rw [h]

end Go.Proofs.YtgnpcenpcmdlfaaGreatDoor

/-
  The order of keys: spec.CompareKeys and impl.CompareKeys come to 'keyCmp'.
-/
namespace Go.Proofs.YtgnpcenpcmdlfaaGreatDoor
open Go.ChangeShapes Go.WideShapes Go.ChangeAt Go.RowKit Go.Deep

def tri (x : Int) : Prop := x = -1 ∨ x = 0 ∨ x = 1
theorem tri_first {a b : Int} (h : tri a) (k : tri b) : tri (firstOf a b) := by
  unfold firstOf; split
  · exact k
  · exact h
theorem tri_kind (k l : Int) : tri (kindCmp k l) := by
  unfold kindCmp tri; repeat' split
  all_goals omega
theorem tri_ts (k l : Int) : tri (tsCmp k l) := by
  unfold tsCmp tri; repeat' split
  all_goals omega
theorem keyCmp_vals (a b : Ent) : keyCmp a b = -1 ∨ keyCmp a b = 0 ∨ keyCmp a b = 1 :=
  tri_first (cB_vals _ _) (tri_first (cB_vals _ _) (tri_first (cB_vals _ _) (tri_first (tri_kind _ _) (tri_ts _ _))))

def colCmp (a b : Ent) : Int := firstOf (cB a.row b.row) (firstOf (cB a.fam b.fam) (cB a.qual b.qual))

theorem firstOf_assoc (a b c : Int) : firstOf (firstOf a b) c = firstOf a (firstOf b c) := by
  unfold firstOf
  by_cases h : a = 0
  · simp [h]
  · simp [h]
theorem keyCmp_col (a b : Ent) : keyCmp a b = firstOf (colCmp a b) (firstOf (kindCmp a.kind b.kind) (tsCmp a.ts b.ts)) := by
  unfold keyCmp colCmp
  rw [firstOf_assoc, firstOf_assoc]
theorem keyCmp_ne {a b : Ent} (h : ¬ colCmp a b = 0) : keyCmp a b = colCmp a b := by
  rw [keyCmp_col]; unfold firstOf; rw [if_neg h]
theorem keyCmp_del1 {a b : Ent} (h : colCmp a b = 0) (h1 : a.kind = 2) (h2 : ¬ b.kind = 2) : keyCmp a b = -1 := by
  rw [keyCmp_col]; unfold firstOf kindCmp; simp [h, h1, h2]
theorem keyCmp_del2 {a b : Ent} (h : colCmp a b = 0) (h1 : ¬ a.kind = 2) (h2 : b.kind = 2) : keyCmp a b = 1 := by
  rw [keyCmp_col]; unfold firstOf kindCmp; simp [h, h1, h2]
theorem keyCmp_ts {a b : Ent} (h : colCmp a b = 0) (h1 : (a.kind = 2) ↔ (b.kind = 2)) : keyCmp a b = tsCmp a.ts b.ts := by
  rw [keyCmp_col]; unfold firstOf kindCmp
  by_cases h2 : a.kind = 2
  · simp [h, h2, h1.1 h2]
  · have h3 : ¬ b.kind = 2 := fun x => h2 (h1.2 x)
    simp [h, h2, h3]

def kt (a b : Ent) (K T : Int) : Prop := keyCmp a b = firstOf (cB a.row b.row) (firstOf (cB a.fam b.fam) (firstOf (cB a.qual b.qual) (firstOf K T)))
theorem kt_of {a b : Ent} {K T : Int} (hk : kindCmp a.kind b.kind = K) (ht : tsCmp a.ts b.ts = T) : kt a b K T := by
  unfold kt keyCmp; rw [hk, ht]
theorem kinds (a b : Ent) :
    ((a.kind == 2) = true ∧ (a.kind != 2) = false ∧ (b.kind == 2) = true ∧ (b.kind != 2) = false ∧ kindCmp a.kind b.kind = 0) ∨
    ((a.kind == 2) = true ∧ (a.kind != 2) = false ∧ (b.kind == 2) = false ∧ (b.kind != 2) = true ∧ kindCmp a.kind b.kind = -1) ∨
    ((a.kind == 2) = false ∧ (a.kind != 2) = true ∧ (b.kind == 2) = true ∧ (b.kind != 2) = false ∧ kindCmp a.kind b.kind = 1) ∨
    ((a.kind == 2) = false ∧ (a.kind != 2) = true ∧ (b.kind == 2) = false ∧ (b.kind != 2) = true ∧ kindCmp a.kind b.kind = 0) := by
  unfold kindCmp
  by_cases ha : a.kind = 2 <;> by_cases hb : b.kind = 2 <;> simp [ha, hb]
theorem tss (a b : Ent) :
    (b.ts < a.ts ∧ ¬ a.ts < b.ts ∧ tsCmp a.ts b.ts = -1) ∨ (¬ b.ts < a.ts ∧ a.ts < b.ts ∧ tsCmp a.ts b.ts = 1) ∨ (¬ b.ts < a.ts ∧ ¬ a.ts < b.ts ∧ tsCmp a.ts b.ts = 0) := by
  unfold tsCmp
  by_cases h1 : b.ts < a.ts
  · exact .inl ⟨h1, by omega, by simp [h1]⟩
  · by_cases h2 : a.ts < b.ts
    · exact .inr (.inl ⟨h1, h2, by simp [h1, h2]⟩)
    · exact .inr (.inr ⟨h1, h2, by simp [h1, h2]⟩)

end Go.Proofs.YtgnpcenpcmdlfaaGreatDoor

/-
  Runs that are valid: spec.ValidRun and impl.ValidRun.
-/
namespace Go.Proofs.YtgnpcenpcmdlfaaGreatDoor
open Go.ChangeShapes Go.WideShapes Go.ChangeAt Go.RowKit Go.Deep
set_option linter.unusedVariables false

def Ent.vld (e : Ent) : Bool := vE e.row e.fam e.qual e.kind e.val
/-- One column? -/
def sameCol (a b : Ent) : Bool := (a.row.toList == b.row.toList) && ((a.fam.toList == b.fam.toList) && (a.qual.toList == b.qual.toList))

theorem lift_in {P : Program} {f : Nat} {args : Array Value} {w : World} {v : Value} (W0 : World) (h : Below W0.heap.size W0 w) (c : Calls P f args w fun e w' => e = .returned v ∧ Below w.heap.size w w') :
    Calls P f args w fun e w' => e = .returned v ∧ Below W0.heap.size W0 w' ∧ (∀ b o, b < W0.heap.size → w'.cell? ⟨b, o, none⟩ = W0.cell? ⟨b, o, none⟩) := by
  refine c.mono ?_
  rintro e w' ⟨he, hb⟩
  have k := h.trans (hb.mono h.size)
  exact ⟨he, k, fun b o hlt => k.cell (p := ⟨b, o, none⟩) hlt⟩

/-- May 'p' stand right before 'e' in a run? -/
def okPair (p e : Ent) : Bool := (keyCmp p e == -1) && !((p.kind == 2) && ((e.kind == 2) && sameCol p e))

end Go.Proofs.YtgnpcenpcmdlfaaGreatDoor

/-
  Runs that are valid: the loops of spec.ValidRun, impl.validWrites, impl.ValidRun.
-/
namespace Go.Proofs.YtgnpcenpcmdlfaaGreatDoor
open Go.ChangeShapes Go.WideShapes Go.ChangeAt Go.RowKit Go.Deep
set_option linter.unusedVariables false

/-- All of them are valid, and not too many. -/
def GoodW (es : List Ent) : Prop := es.length ≤ 10000 ∧ ∀ e ∈ es, e.vld = true
/-- Each may stand right before the next. -/
def Pairs (es : List Ent) : Prop := ∀ i p e, es[i]? = some p → es[i + 1]? = some e → okPair p e = true
def GoodR (es : List Ent) : Prop := GoodW es ∧ Pairs es

theorem iffF {p : Prop} (h : ¬ p) : (false = true ↔ p) := ⟨fun x => Bool.noConfusion x, fun x => absurd x h⟩
theorem iffT {p : Prop} (h : p) : (true = true ↔ p) := ⟨fun _ => h, fun _ => rfl⟩
theorem vld_of_take {es : List Ent} {k : Nat} {e : Ent} (h : ∀ x ∈ es.take k, x.vld = true) (he : es[k]? = some e) (hv : e.vld = true) : ∀ x ∈ es.take (k + 1), x.vld = true := by
  intro x hx
  rw [List.take_add_one, he] at hx
  simp at hx
  rcases hx with hx | rfl
  · exact h x hx
  · exact hv

theorem pairs_short {es : List Ent} (h : es.length ≤ 1) : Pairs es := by
  intro i p e h1 h2
  have := (List.getElem?_eq_some_iff.1 h2).1
  omega

/-- The pairs below place 'k'. -/
def PairsTo (es : List Ent) (k : Nat) : Prop := ∀ i p e, i + 1 < k → es[i]? = some p → es[i + 1]? = some e → okPair p e = true
theorem pairsTo_succ {es : List Ent} {m : Nat} {p e : Ent} (h : PairsTo es (m + 1)) (hp : es[m]? = some p) (he : es[m + 1]? = some e) (ho : okPair p e = true) : PairsTo es (m + 1 + 1) := by
  intro i p' e' hi h1 h2
  by_cases hm : i = m
  · subst hm
    rw [hp] at h1; rw [he] at h2
    simp at h1 h2
    subst h1 h2
    exact ho
  · exact h i p' e' (by omega) h1 h2
theorem pairs_of_to {es : List Ent} {k : Nat} (h : PairsTo es k) (hk : es.length ≤ k) : Pairs es := by
  intro i p e h1 h2
  have := (List.getElem?_eq_some_iff.1 h2).1
  exact h i p e (by omega) h1 h2

end Go.Proofs.YtgnpcenpcmdlfaaGreatDoor

/-
  The body of a block, the file of a run (mathematics).
-/
namespace Go.Proofs.YtgnpcenpcmdlfaaGreatDoor
set_option linter.unusedVariables false
set_option linter.unusedSimpArgs false

/-- The bytes of a string. -/
abbrev bl (s : ByteArray) : List UInt8 := s.data.toList
theorem bl_len (s : ByteArray) : (bl s).length = s.size := by simp [bl]
theorem wf_u64 {t : Int} (h : (Lit.int .u64 t).wf = true) : 0 ≤ t ∧ t < 2 ^ 64 := by
  simp only [Lit.wf, Bool.and_eq_true, decide_eq_true_eq] at h
  have h1 : IntKind.u64.min = 0 := rfl
  have h2 : IntKind.u64.max = 18446744073709551615 := rfl
  omega
/-- One entry behind a row. -/
def entB (before : List UInt8) (e : Ent) : List UInt8 :=
  num (shared before (bl e.row)) ++ strB ((bl e.row).drop (shared before (bl e.row))) ++ strB (bl e.fam) ++ strB (bl e.qual) ++ num e.ts.toNat ++ num e.kind.toNat ++ strB (bl e.val)
def body : List UInt8 → List Ent → List UInt8
  | _, [] => []
  | b, e :: es => entB b e ++ body (bl e.row) es
/-- The row ahead. -/
def lastRow : List UInt8 → List Ent → List UInt8
  | b, [] => b
  | _, e :: es => lastRow (bl e.row) es
theorem body_snoc : ∀ (b : List UInt8) (es : List Ent) (e : Ent), body b (es ++ [e]) = body b es ++ entB (lastRow b es) e
  | b, [], e => by simp [body, lastRow]
  | b, x :: es, e => by rw [List.cons_append, body, body, body_snoc (bl x.row) es e, List.append_assoc]; rfl
theorem lastRow_snoc : ∀ (b : List UInt8) (es : List Ent) (e : Ent), lastRow b (es ++ [e]) = bl e.row
  | _, [], _ => rfl
  | _, x :: es, e => lastRow_snoc (bl x.row) es e
theorem vld_parts {e : Ent} (h : e.vld = true) : 1 ≤ e.row.size ∧ e.row.size ≤ 64 ∧ 1 ≤ e.fam.size ∧ e.fam.size ≤ 16 ∧ e.qual.size ≤ 64 ∧ e.val.size ≤ 200 ∧ 0 ≤ e.kind ∧ e.kind ≤ 2 := by
  unfold Ent.vld vE at h
  simp only [Bool.and_eq_true, decide_eq_true_eq] at h
  omega
theorem strB_len {s : List UInt8} (h : s.length < 2 ^ 64) : (strB s).length ≤ 10 + s.length := by
  unfold strB
  have := num_len64 h
  simp; omega
theorem num_kind {k : Nat} (h : k ≤ 2) : (num k).length = 1 := by rw [num_small (by omega)]; rfl
theorem entB_len {b : List UInt8} {e : Ent} (h : e.vld = true) (ht : e.ts.toNat < 2 ^ 64) : (entB b e).length ≤ 500 := by
  obtain ⟨h1, h2, h3, h4, h5, h6, h7, h8⟩ := vld_parts h
  have l0 := (shared_le b (bl e.row)).2
  rw [bl_len] at l0
  have l1 := num_len64 (n := shared b (bl e.row)) (by omega)
  have l2 := strB_len (s := (bl e.row).drop (shared b (bl e.row))) (by simp only [List.length_drop, bl_len]; omega)
  have l3 := strB_len (s := bl e.fam) (by rw [bl_len]; omega)
  have l4 := strB_len (s := bl e.qual) (by rw [bl_len]; omega)
  have l5 := num_len64 (n := e.ts.toNat) ht
  have l6 := num_len64 (n := e.kind.toNat) (by omega)
  have l7 := strB_len (s := bl e.val) (by rw [bl_len]; omega)
  simp only [List.length_drop, bl_len] at l2 l3 l4 l7
  unfold entB
  simp only [List.length_append]
  omega
theorem body_len : ∀ (es : List Ent) (b : List UInt8), (∀ e ∈ es, e.vld = true) → (∀ e ∈ es, e.ts.toNat < 2 ^ 64) → (body b es).length ≤ 500 * es.length
  | [], b, _, _ => by simp [body]
  | e :: es, b, h, k => by
    have h1 := entB_len (b := b) (h e (by simp)) (k e (by simp))
    have h2 := body_len es (bl e.row) (fun x hx => h x (by simp [hx])) (fun x hx => k x (by simp [hx]))
    simp only [body, List.length_append, List.length_cons]
    omega
theorem body_pos {b : List UInt8} {es : List Ent} (h : 0 < es.length) : 0 < (body b es).length := by
  cases es with
  | nil => simp at h
  | cons e es =>
    have := num_pos (shared b (bl e.row))
    simp only [body, entB, List.length_append]
    omega
end Go.Proofs.YtgnpcenpcmdlfaaGreatDoor

/-
  The text of a filter, without memory.
-/
namespace Go.Proofs.YtgnpcenpcmdlfaaGreatDoor
open Go.ChangeShapes Go.WideShapes Go.ChangeAt Go.RowKit Go.Deep
set_option linter.unusedVariables false
set_option linter.unusedSimpArgs false

def hexB (n : Nat) : UInt8 := if n < 10 then UInt8.ofNat (48 + n) else UInt8.ofNat (87 + n)
/-- A byte within quotes. -/
def qByte (b : UInt8) : List UInt8 := if b.toNat = 34 ∨ b.toNat = 92 then [92, b] else if 32 ≤ b.toNat ∧ b.toNat ≤ 126 then [b] else [92, 120, hexB (b.toNat / 16), hexB (b.toNat % 16)]
theorem qByte_len (b : UInt8) : (qByte b).length ≤ 4 := by
  unfold qByte
  split
  · simp
  · split <;> simp
def quoL (s : List UInt8) : List UInt8 := s.flatMap qByte
theorem quoL_len (s : List UInt8) : (quoL s).length ≤ 4 * s.length := by
  induction s with
  | nil => simp [quoL]
  | cons b s ih => unfold quoL at ih ⊢; rw [List.flatMap_cons, List.length_append, List.length_cons]; have := qByte_len b; omega
theorem quoL_snoc (s : List UInt8) (b : UInt8) : quoL (s ++ [b]) = quoL s ++ qByte b := by simp [quoL]
def quoM (s : List UInt8) : List UInt8 := [34] ++ quoL s ++ [34]
theorem quoM_len (s : List UInt8) : (quoM s).length ≤ 4 * s.length + 2 := by unfold quoM; have := quoL_len s; simp; omega
/-- The words, by kind. -/
def wordA (k : Int) : ByteArray :=
  if k = 1 then ⟨#[112, 97, 115, 115]⟩ else if k = 2 then ⟨#[98, 108, 111, 99, 107]⟩ else if k = 3 then ⟨#[115, 116, 114, 105, 112]⟩ else if k = 4 then ⟨#[114, 111, 119]⟩
  else if k = 5 then ⟨#[102, 97, 109]⟩ else if k = 6 then ⟨#[113, 117, 97, 108]⟩ else if k = 7 then ⟨#[118, 97, 108]⟩ else if k = 8 then ⟨#[114, 111, 119, 115]⟩
  else if k = 9 then ⟨#[113, 117, 97, 108, 115]⟩ else if k = 10 then ⟨#[116, 115]⟩ else if k = 11 then ⟨#[118, 101, 114, 115, 105, 111, 110, 115]⟩ else if k = 12 then ⟨#[99, 101, 108, 108, 115]⟩
  else if k = 13 then ⟨#[115, 107, 105, 112]⟩ else ⟨#[]⟩
theorem wordA_len (k : Int) : (bl (wordA k)).length ≤ 8 := by
  rw [bl_len]
  have gen : ∀ (p : Prop) [Decidable p] (a b : ByteArray), a.size ≤ 8 → b.size ≤ 8 → (if p then a else b).size ≤ 8 := by
    intro p _ a b ha hb
    split
    · exact ha
    · exact hb
  unfold wordA
  repeat' (first | (apply gen) | decide)
/-- A text or a number, where there is one. -/
def endM (t : List UInt8) (n : Int) : List UInt8 := if t = [] then (if n = 0 then [] else Lib.decDigits n.toNat) else quoM t
def tailM (e : Nd) : List UInt8 :=
  if e.kind = 4 ∨ e.kind = 5 ∨ e.kind = 6 ∨ e.kind = 7 then [32] ++ quoM (bl e.s)
  else if e.kind = 8 ∨ e.kind = 9 ∨ e.kind = 10 then [32] ++ endM (bl e.s) e.lo ++ [46, 46] ++ endM (bl e.t) e.up
  else if e.kind = 11 ∨ e.kind = 12 ∨ e.kind = 13 then [32] ++ Lib.decDigits e.n.toNat else []
def leafM (e : Nd) : List UInt8 := bl (wordA e.kind) ++ tailM e
theorem decDigits_len : ∀ (f n : Nat), n < 10 ^ (f + 1) → (Lib.decDigits n).length ≤ f + 1
  | 0, n, h => by
    rw [Lib.decDigits, dif_pos (by simpa using h)]; simp
  | f + 1, n, h => by
    rw [Lib.decDigits]
    split
    · simp
    · have := decDigits_len f (n / 10) (by rw [Nat.div_lt_iff_lt_mul (by omega), ← Nat.pow_succ]; exact h)
      rw [List.length_append, List.length_singleton]
      omega
theorem dec64_len {n : Nat} (h : n < 2 ^ 64) : (Lib.decDigits n).length ≤ 20 := decDigits_len 19 n (Nat.lt_trans h (by decide))
theorem bl_nil {s : ByteArray} : bl s = [] ↔ s.toList = [] := by rw [ByteArray.toList_eq]
/-- The numbers of a node are numbers of their types. -/
structure NumN (e : Nd) : Prop where
  lo0 : 0 ≤ e.lo
  lo1 : e.lo < 2 ^ 64
  up0 : 0 ≤ e.up
  up1 : e.up < 2 ^ 64
theorem endM_len {t : List UInt8} {n : Int} (ht : t.length ≤ 200) (h0 : 0 ≤ n) (h1 : n < 2 ^ 64) : (endM t n).length ≤ 802 := by
  unfold endM
  split
  · split
    · simp
    · have := dec64_len (n := n.toNat) (by omega); omega
  · have := quoM_len t; omega
theorem leafM_len {e : Nd} (h : GoodN e) (hn : NumN e) : (leafM e).length ≤ 2000 := by
  have hs : (bl e.s).length ≤ 200 := by rw [bl_len]; exact h.1
  have ht : (bl e.t).length ≤ 200 := by rw [bl_len]; exact h.2.1
  have h1 := wordA_len e.kind
  have h2 := quoM_len (bl e.s)
  have h3 := endM_len hs hn.lo0 hn.lo1
  have h4 := endM_len ht hn.up0 hn.up1
  have h5 : (tailM e).length ≤ 1700 := by
    unfold tailM
    split
    · simp; omega
    · split
      · simp; omega
      · split
        · rename_i q1 q2 q3
          have h9 : e.n ≤ 1000 ∧ 1 ≤ e.n := by
            obtain ⟨_, _, _, h4⟩ := h
            omega
          have := dec64_len (n := e.n.toNat) (by omega)
          simp; omega
        · simp
  unfold leafM
  rw [List.length_append]
  omega
/-- A printed tree: its kind and its text. -/
abbrev PT := Int × List UInt8
def wrapB (op : Int) (i : Nat) (kid : Int) : Bool := if op = 16 then false else level op i kid
def wrapT (op : Int) (i : Nat) (x : PT) : List UInt8 := if wrapB op i x.1 = true then [40] ++ x.2 ++ [41] else x.2
theorem wrapT_len (op : Int) (i : Nat) (x : PT) : (wrapT op i x).length ≤ x.2.length + 2 := by
  unfold wrapT
  split
  · simp
  · omega
def sepM (k : Int) : List UInt8 := if k = 16 then [44, 32] else if k = 15 then [32, 124, 32] else [32, 62, 32]
def joinM (k : Int) : Nat → List PT → List UInt8
  | _, [] => []
  | i, x :: xs => (if i = 0 then [] else sepM k) ++ wrapT k i x ++ joinM k (i + 1) xs
def printV (e : Nd) (os : List PT) : PT := (e.kind, if os = [] then leafM e else (if e.kind = 16 then [105, 102, 40] else []) ++ joinM e.kind 0 os ++ (if e.kind = 16 then [41] else []))
def sizeP (ss : List PT) : Nat := (ss.map (·.2.length)).sum
theorem sizeP_append (a b : List PT) : sizeP (a ++ b) = sizeP a + sizeP b := by simp [sizeP]
theorem joinM_len (k : Int) : ∀ (i : Nat) (os : List PT), (joinM k i os).length ≤ sizeP os + 5 * os.length
  | _, [] => by simp [joinM]
  | i, x :: xs => by
    have h1 := joinM_len k (i + 1) xs
    have h2 := wrapT_len k i x
    have h3 : (if i = 0 then [] else sepM k).length ≤ 3 := by
      unfold sepM
      repeat' split
      all_goals simp
    simp only [joinM, List.length_append, sizeP, List.map_cons, List.sum_cons, List.length_cons]
    unfold sizeP at h1
    omega
theorem print_len {ss : List PT} {xs : List Nd} (h : TrV printV ss xs) (hg : ∀ e ∈ xs, GoodN e ∧ NumN e) : sizeP ss ≤ 2000 * xs.length := by
  induction h with
  | nil => simp [sizeP]
  | @snoc ss os xs n ho h ih =>
    have h1 := ih (fun e he => hg e (by simp [he]))
    rw [sizeP_append] at h1 ⊢
    have h2 : (printV n os).2.length ≤ sizeP os + 2000 := by
      unfold printV
      simp only
      split
      · have := leafM_len (hg n (by simp)).1 (hg n (by simp)).2
        omega
      · have h3 := joinM_len n.kind 0 os
        have h4 : os.length ≤ 3 := by rw [ho]; exact arity_le _
        have h5 : (if n.kind = 16 then [105, 102, 40] else ([] : List UInt8)).length ≤ 3 := by split <;> simp
        have h6 : (if n.kind = 16 then [41] else ([] : List UInt8)).length ≤ 1 := by split <;> simp
        simp only [List.length_append]
        omega
    have h7 : sizeP [printV n os] = (printV n os).2.length := by simp [sizeP]
    rw [List.length_append, List.length_singleton, h7]
    omega
theorem joinM_snoc (k : Int) : ∀ (i : Nat) (os : List PT) (x : PT), joinM k i (os ++ [x]) = joinM k i os ++ ((if i + os.length = 0 then [] else sepM k) ++ wrapT k (i + os.length) x)
  | i, [], x => by simp [joinM]
  | i, y :: os, x => by
    rw [List.cons_append, joinM, joinM_snoc k (i + 1) os x, joinM, List.length_cons]
    rw [show i + 1 + os.length = i + (os.length + 1) by omega]
    simp only [List.append_assoc]
/-- The text of a filter. -/
def TextF (xs : List Nd) (y : PT) : Prop := TrV printV [y] xs
theorem textF_one {xs : List Nd} {y z : PT} (h : TextF xs y) (k : TextF xs z) : y = z := by
  have := TrV.one _ h k
  simpa using this
theorem textF_ex {xs : List Nd} (h : IsT 1 xs) : ∃ y, TextF xs y := by
  obtain ⟨ss, hl, hs⟩ := IsT.trv printV h
  match ss, hl with
  | [y], _ => exact ⟨y, hs⟩
theorem textF_len {xs : List Nd} {y : PT} (h : TextF xs y) (hg : ∀ e ∈ xs, GoodN e ∧ NumN e) : y.2.length ≤ 2000 * xs.length := by
  have := print_len h hg
  simpa [sizeP] using this
end Go.Proofs.YtgnpcenpcmdlfaaGreatDoor

/-
  A filter's text cut into tokens, without memory.
-/
namespace Go.Proofs.YtgnpcenpcmdlfaaGreatDoor
set_option linter.unusedVariables false
set_option linter.unusedSimpArgs false

def isLet (b : UInt8) : Bool := decide (97 ≤ b.toNat ∧ b.toNat ≤ 122)
def isDig (b : UInt8) : Bool := decide (48 ≤ b.toNat ∧ b.toNat ≤ 57)
def isPla (b : UInt8) : Bool := decide (32 ≤ b.toNat ∧ b.toNat ≤ 126)
def WordK (l : List UInt8) (k : Int) : Prop := (1 ≤ k ∧ k ≤ 13 ∧ bl (wordA k) = l) ∨ (k = 16 ∧ l = [105, 102])
def kwF (l : List UInt8) : Option Int :=
  if l = [112, 97, 115, 115] then some 1 else if l = [98, 108, 111, 99, 107] then some 2 else if l = [115, 116, 114, 105, 112] then some 3 else if l = [114, 111, 119] then some 4
  else if l = [102, 97, 109] then some 5 else if l = [113, 117, 97, 108] then some 6 else if l = [118, 97, 108] then some 7 else if l = [114, 111, 119, 115] then some 8
  else if l = [113, 117, 97, 108, 115] then some 9 else if l = [116, 115] then some 10 else if l = [118, 101, 114, 115, 105, 111, 110, 115] then some 11 else if l = [99, 101, 108, 108, 115] then some 12
  else if l = [115, 107, 105, 112] then some 13 else if l = [105, 102] then some 16 else none
theorem cases13 {k : Int} (h1 : 1 ≤ k) (h2 : k ≤ 13) : k = 1 ∨ k = 2 ∨ k = 3 ∨ k = 4 ∨ k = 5 ∨ k = 6 ∨ k = 7 ∨ k = 8 ∨ k = 9 ∨ k = 10 ∨ k = 11 ∨ k = 12 ∨ k = 13 := by omega
theorem kwF_word {l : List UInt8} {k : Int} (h : WordK l k) : kwF l = some k := by
  rcases h with ⟨h1, h2, rfl⟩ | ⟨rfl, rfl⟩
  · rcases cases13 h1 h2 with rfl | rfl | rfl | rfl | rfl | rfl | rfl | rfl | rfl | rfl | rfl | rfl | rfl <;> decide
  · decide
theorem ifS {p : Prop} [Decidable p] {a b : Option Int} {k : Int} (h : (if p then a else b) = some k) : (p ∧ a = some k) ∨ b = some k := by
  by_cases q : p
  · rw [if_pos q] at h; exact .inl ⟨q, h⟩
  · rw [if_neg q] at h; exact .inr h
theorem kwF_some {l : List UInt8} {k : Int} (h : kwF l = some k) : WordK l k := by
  unfold kwF at h
  rcases ifS h with ⟨rfl, h⟩ | h
  · cases h; exact .inl ⟨by omega, by omega, by decide⟩
  rcases ifS h with ⟨rfl, h⟩ | h
  · cases h; exact .inl ⟨by omega, by omega, by decide⟩
  rcases ifS h with ⟨rfl, h⟩ | h
  · cases h; exact .inl ⟨by omega, by omega, by decide⟩
  rcases ifS h with ⟨rfl, h⟩ | h
  · cases h; exact .inl ⟨by omega, by omega, by decide⟩
  rcases ifS h with ⟨rfl, h⟩ | h
  · cases h; exact .inl ⟨by omega, by omega, by decide⟩
  rcases ifS h with ⟨rfl, h⟩ | h
  · cases h; exact .inl ⟨by omega, by omega, by decide⟩
  rcases ifS h with ⟨rfl, h⟩ | h
  · cases h; exact .inl ⟨by omega, by omega, by decide⟩
  rcases ifS h with ⟨rfl, h⟩ | h
  · cases h; exact .inl ⟨by omega, by omega, by decide⟩
  rcases ifS h with ⟨rfl, h⟩ | h
  · cases h; exact .inl ⟨by omega, by omega, by decide⟩
  rcases ifS h with ⟨rfl, h⟩ | h
  · cases h; exact .inl ⟨by omega, by omega, by decide⟩
  rcases ifS h with ⟨rfl, h⟩ | h
  · cases h; exact .inl ⟨by omega, by omega, by decide⟩
  rcases ifS h with ⟨rfl, h⟩ | h
  · cases h; exact .inl ⟨by omega, by omega, by decide⟩
  rcases ifS h with ⟨rfl, h⟩ | h
  · cases h; exact .inl ⟨by omega, by omega, by decide⟩
  rcases ifS h with ⟨rfl, h⟩ | h
  · cases h; exact .inr ⟨rfl, rfl⟩
  · cases h
theorem kwF_iff (l : List UInt8) (k : Int) : kwF l = some k ↔ WordK l k := ⟨kwF_some, kwF_word⟩
theorem wordK_range {l : List UInt8} {k : Int} (h : WordK l k) : (1 ≤ k ∧ k ≤ 13) ∨ k = 16 := by
  rcases h with ⟨h1, h2, _⟩ | ⟨h, _⟩
  · exact .inl ⟨h1, h2⟩
  · exact .inr h
/-- The value of digits. -/
def decV (d : List UInt8) : Nat := d.foldl (fun n b => 10 * n + (b.toNat - 48)) 0
def numM (d : List UInt8) : Option Nat := if 1 < d.length ∧ d.head? = some 48 then none else if decV d < 2 ^ 64 then some (decV d) else none
def hexV (b : UInt8) : Option Nat := if 48 ≤ b.toNat ∧ b.toNat ≤ 57 then some (b.toNat - 48) else if 97 ≤ b.toNat ∧ b.toNat ≤ 102 then some (b.toNat - 87) else none
/-- What stands behind a quote: the content, and how many bytes it takes with the last quote. -/
def strM : List UInt8 → Option (List UInt8 × Nat)
  | [] => none
  | b :: r => if b = 34 then some ([], 1)
    else if b = 92 then (match r with
      | [] => none
      | c :: r2 => if c = 34 ∨ c = 92 then (strM r2).map (fun x => (c :: x.1, x.2 + 2))
        else if c = 120 then (match r2 with
          | h :: l :: r3 => (match hexV h, hexV l with
            | some x, some y => (strM r3).map (fun z => (UInt8.ofNat (16 * x + y) :: z.1, z.2 + 4))
            | _, _ => none)
          | _ => none)
        else none)
    else if isPla b = true then (strM r).map (fun x => (b :: x.1, x.2 + 1)) else none
def tokF (l : List UInt8) : Option (TkK × Nat) := match l with
  | [] => none
  | b :: r =>
    if isLet b = true then (kwF (l.takeWhile isLet)).map (fun k => (.word k, (l.takeWhile isLet).length))
    else if isDig b = true then (numM (l.takeWhile isDig)).map (fun n => (.num (n : Int), (l.takeWhile isDig).length))
    else if b = 34 then (match strM r with
      | some (c, n) => if c.length ≤ 200 then some (.str ⟨c.toArray⟩, n + 1) else none
      | none => none)
    else if b = 46 ∧ r.head? = some 46 then some (.sign 46, 2)
    else if b = 40 ∨ b = 41 ∨ b = 44 ∨ b = 62 ∨ b = 124 then some (.sign b, 1)
    else none
inductive LexR : List UInt8 → Nat → List Tk → Prop
  | fin {i : Nat} : LexR [] i [⟨.fin, i⟩]
  | space {l : List UInt8} {i : Nat} {ks : List Tk} (h : LexR l (i + 1) ks) : LexR (32 :: l) i ks
  | bad {b : UInt8} {l : List UInt8} {i : Nat} (hb : ¬ b = 32) (h : tokF (b :: l) = none) : LexR (b :: l) i [⟨.bad, i⟩]
  | tok {b : UInt8} {l : List UInt8} {i : Nat} {k : TkK} {n : Nat} {ks : List Tk} (hb : ¬ b = 32) (h : tokF (b :: l) = some (k, n)) (ht : LexR ((b :: l).drop n) (i + n) ks) : LexR (b :: l) i (⟨k, i⟩ :: ks)
theorem takeWhile_len {α : Type} (p : α → Bool) (l : List α) : (l.takeWhile p).length ≤ l.length := by
  induction l with
  | nil => simp
  | cons a l ih => rw [List.takeWhile_cons]; split <;> simp <;> omega
theorem strM_len : ∀ (m : Nat) (l : List UInt8), l.length ≤ m → ∀ x, strM l = some x → 1 ≤ x.2 ∧ x.2 ≤ l.length ∧ x.1.length < x.2
  | 0, l, hl, x, h => by
    obtain rfl := List.length_eq_zero_iff.1 (Nat.le_zero.1 hl)
    unfold strM at h; cases h
  | m + 1, [], hl, x, h => by unfold strM at h; cases h
  | m + 1, b :: r, hl, x, h => by
    rw [List.length_cons] at hl ⊢
    unfold strM at h
    split at h
    · cases h; exact ⟨Nat.le_refl _, by omega, by simp⟩
    split at h
    · cases r with
      | nil => cases h
      | cons c r2 =>
        rw [List.length_cons] at hl ⊢
        dsimp only at h
        split at h
        · obtain ⟨y, hy, rfl⟩ := Option.map_eq_some_iff.1 h
          have := strM_len m r2 (by omega) y hy
          simp only [List.length_cons]
          omega
        split at h
        · cases r2 with
          | nil => cases h
          | cons a r3 => cases r3 with
            | nil => cases h
            | cons e r4 =>
              dsimp only at h
              split at h
              · obtain ⟨y, hy, rfl⟩ := Option.map_eq_some_iff.1 h
                simp only [List.length_cons] at hl ⊢
                have := strM_len m r4 (by omega) y hy
                omega
              · cases h
        · cases h
    · split at h
      · obtain ⟨y, hy, rfl⟩ := Option.map_eq_some_iff.1 h
        have := strM_len m r (by omega) y hy
        simp only [List.length_cons]
        omega
      · cases h
/-- What a token may be. -/
def TkK.good : TkK → Prop
  | .word k => (1 ≤ k ∧ k ≤ 13) ∨ k = 16
  | .num n => 0 ≤ n ∧ n < 2 ^ 64
  | .str s => s.size ≤ 200
  | .sign b => b = 40 ∨ b = 41 ∨ b = 44 ∨ b = 62 ∨ b = 124 ∨ b = 46
  | _ => False
theorem tokF_some {l : List UInt8} {k : TkK} {n : Nat} (h : tokF l = some (k, n)) : 1 ≤ n ∧ n ≤ l.length ∧ k.good := by
  unfold tokF at h
  cases l with
  | nil => cases h
  | cons b r =>
    dsimp only at h
    split at h
    · rename_i hb
      obtain ⟨y, hy, hq⟩ := Option.map_eq_some_iff.1 h
      cases hq
      refine ⟨?_, takeWhile_len _ _, wordK_range (kwF_some hy)⟩
      rw [List.takeWhile_cons, if_pos hb]; simp
    split at h
    · rename_i hb
      obtain ⟨y, hy, hq⟩ := Option.map_eq_some_iff.1 h
      cases hq
      refine ⟨?_, takeWhile_len _ _, ?_⟩
      · rw [List.takeWhile_cons, if_pos hb]; simp
      · unfold numM at hy
        split at hy
        · cases hy
        · split at hy
          · cases hy
            rename_i h64
            exact ⟨by omega, by omega⟩
          · cases hy
    split at h
    · cases hs : strM r with
      | none => rw [hs] at h; cases h
      | some x =>
        rw [hs] at h
        obtain ⟨c, m⟩ := x
        dsimp only at h
        split at h
        · rename_i hc
          cases h
          have := strM_len r.length r (Nat.le_refl _) _ hs
          refine ⟨by omega, by simp only [List.length_cons]; omega, ?_⟩
          show (⟨c.toArray⟩ : ByteArray).size ≤ 200
          show c.toArray.size ≤ 200
          simpa using hc
        · cases h
    split at h
    · rename_i hd
      cases h
      refine ⟨by omega, ?_, by simp [TkK.good]⟩
      cases r with
      | nil => simp at hd
      | cons c r => simp
    split at h
    · rename_i hd
      cases h
      exact ⟨Nat.le_refl _, by simp, by rcases hd with rfl | rfl | rfl | rfl | rfl <;> simp [TkK.good]⟩
    · cases h
theorem lexR_ex : ∀ (m : Nat) (l : List UInt8) (i : Nat), l.length ≤ m → ∃ ks, LexR l i ks
  | 0, l, i, h => by
    obtain rfl := List.length_eq_zero_iff.1 (Nat.le_zero.1 h)
    exact ⟨_, .fin⟩
  | m + 1, [], i, h => ⟨_, .fin⟩
  | m + 1, b :: l, i, h => by
    by_cases hb : b = 32
    · subst hb
      obtain ⟨ks, hk⟩ := lexR_ex m l (i + 1) (by simp at h; omega)
      exact ⟨ks, .space hk⟩
    · cases ht : tokF (b :: l) with
      | none => exact ⟨_, .bad hb ht⟩
      | some x =>
        obtain ⟨k, n⟩ := x
        have hn := tokF_some ht
        obtain ⟨ks, hk⟩ := lexR_ex m ((b :: l).drop n) (i + n) (by rw [List.length_drop]; omega)
        exact ⟨_, .tok hb ht hk⟩
theorem LexR.one {l : List UInt8} {i : Nat} {ks ks' : List Tk} (h : LexR l i ks) (h' : LexR l i ks') : ks = ks' := by
  induction h generalizing ks' with
  | fin => cases h' with
    | fin => rfl
  | space h ih => cases h' with
    | space h' => exact ih h'
    | bad hb _ => exact absurd rfl hb
    | tok hb _ _ => exact absurd rfl hb
  | bad hb h => cases h' with
    | space h' => exact absurd rfl hb
    | bad _ _ => rfl
    | tok _ h' _ => rw [h] at h'; cases h'
  | tok hb h ht ih => cases h' with
    | space h' => exact absurd rfl hb
    | bad _ h' => rw [h] at h'; cases h'
    | tok _ h' ht' =>
      rw [h] at h'
      cases h'
      rw [ih ht']
/-- The tokens of a text: all but the last are tokens, the last is the end or a bad one. -/
inductive Toks : List Tk → Prop
  | last (k : Tk) (h : k.k = .fin ∨ k.k = .bad) : Toks [k]
  | more (k : Tk) (h : k.k.good) {ks : List Tk} (t : Toks ks) : Toks (k :: ks)
theorem LexR.toks {l : List UInt8} {i : Nat} {ks : List Tk} (h : LexR l i ks) : Toks ks := by
  induction h with
  | fin => exact .last _ (.inl rfl)
  | space _ ih => exact ih
  | bad _ _ => exact .last _ (.inr rfl)
  | tok _ h _ ih => exact .more _ (tokF_some h).2.2 ih
theorem LexR.len {l : List UInt8} {i : Nat} {ks : List Tk} (h : LexR l i ks) : ks.length ≤ l.length + 1 ∧ ∀ k ∈ ks, k.pos ≤ i + l.length := by
  induction h with
  | fin => exact ⟨by simp, fun k hk => by simp at hk; subst hk; simp⟩
  | space _ ih => exact ⟨by have := ih.1; simp; omega, fun k hk => by have := ih.2 k hk; simp; omega⟩
  | bad _ _ => exact ⟨by simp, fun k hk => by simp at hk; subst hk; simp⟩
  | @tok b l i k n ks hb h _ ih =>
    have hn := tokF_some h
    rw [List.length_drop] at ih
    refine ⟨by have := ih.1; simp at this ⊢; simp at hn; omega, fun q hq => ?_⟩
    rcases List.mem_cons.1 hq with rfl | hq
    · show i ≤ _; omega
    · have := ih.2 q hq; omega
theorem good_ne {k : TkK} (h : k.good) : k.isBad = false ∧ k.isFin = false := by cases k <;> first | exact ⟨rfl, rfl⟩ | exact h.elim
theorem Toks.ne {ks : List Tk} (h : Toks ks) : ks ≠ [] := by cases h <;> simp
theorem Toks.tail {k : Tk} {ks : List Tk} (h : Toks (k :: ks)) (hb : k.k.isBad = false) (hf : k.k.isFin = false) : Toks ks ∧ k.k.good := by
  cases h with
  | last _ h =>
    rcases h with h | h
    · rw [h] at hf; cases hf
    · rw [h] at hb; cases hb
  | more _ h t => exact ⟨t, h⟩
end Go.Proofs.YtgnpcenpcmdlfaaGreatDoor

/-
  spec.l5Is, l5Same, l5Join.
-/
namespace Go.Proofs.YtgnpcenpcmdlfaaGreatDoor
open Go.ChangeShapes Go.WideShapes Go.ChangeAt Go.RowKit Go.Deep
set_option linter.unusedVariables false
set_option linter.unusedSimpArgs false
set_option maxRecDepth 100000

open Classical in
noncomputable def isKB (xs : List Nd) (k : Int) : Bool := decide (isK xs k)
theorem isKB_iff (xs : List Nd) (k : Int) : isKB xs k = true ↔ isK xs k := by unfold isKB; simp
open Classical in
noncomputable def sameB (xs ys : List Nd) : Bool := decide (xs = ys)
theorem sameB_iff (xs ys : List Nd) : sameB xs ys = true ↔ xs = ys := by unfold sameB; simp
theorem isKB_no {xs : List Nd} {k : Int} (h : ¬ isK xs k) : isKB xs k = false := by
  cases q : isKB xs k with
  | false => rfl
  | true => exact absurd ((isKB_iff xs k).1 q) h
theorem sameB_no {xs ys : List Nd} (h : ¬ xs = ys) : sameB xs ys = false := by
  cases q : sameB xs ys with
  | false => rfl
  | true => exact absurd ((sameB_iff xs ys).1 q) h
theorem InNds.form {w : World} {v : Value} {xs : List Nd} (h : InNds w v xs) : ∃ a c, v = .slice a xs.length c ∧ (xs ≠ [] → ∃ b o, a = some ⟨b, o, none⟩ ∧ NdsAt w b o xs ∧ b < w.heap.size ∧ xs.length ≤ c ∧ c ≤ maxLen) := by
  rcases h with ⟨a, cap, rfl, rfl⟩ | ⟨b, off, cap, rfl, hE, hlt, h1, h2⟩
  · exact ⟨a, cap, rfl, fun q => absurd rfl q⟩
  · exact ⟨_, cap, rfl, fun _ => ⟨b, off, rfl, hE, hlt, h1, h2⟩⟩
theorem ndNe_any (x y : Nd) : ∃ B : Bool, (B = false ↔ x = y) ∧ ∀ wx, (binOp .neq 65 (.agg #[.int .i64 x.kind, .string x.s, .bool x.hi, .string x.t, .int .u64 x.lo, .int .u64 x.up, .int .i64 x.n]) (.agg #[.int .i64 y.kind, .string y.s, .bool y.hi, .string y.t, .int .u64 y.lo, .int .u64 y.up, .int .i64 y.n])).run Tryz.prog wx = .ok (.bool B) wx := by
  obtain ⟨k, s, h, t, l, u, n⟩ := x
  obtain ⟨k', s', h', t', l', u', n'⟩ := y
  refine ⟨! decide (k = k' ∧ s.toList = s'.toList ∧ h = h' ∧ t.toList = t'.toList ∧ l = l' ∧ u = u' ∧ n = n'), ?_, fun wx => ?_⟩
  · rw [Bool.not_eq_eq_eq_not, Bool.not_false, decide_eq_true_eq]
    constructor
    · rintro ⟨rfl, h1, rfl, h2, rfl, rfl, rfl⟩
      rw [baInj h1, baInj h2]
    · intro q
      cases q
      exact ⟨rfl, rfl, rfl, rfl, rfl, rfl, rfl⟩
  · go_simp
    repeat' split
    all_goals simp_all
end Go.Proofs.YtgnpcenpcmdlfaaGreatDoor

/-
  Nodes appended; spec.l5Join.
-/
namespace Go.Proofs.YtgnpcenpcmdlfaaGreatDoor
open Go.ChangeShapes Go.WideShapes Go.ChangeAt Go.RowKit Go.Deep
set_option linter.unusedVariables false
set_option linter.unusedSimpArgs false
set_option maxRecDepth 100000

theorem cellsN_append (es fs : List Nd) : cellsN (es ++ fs) = cellsN es ++ cellsN fs := by simp [cellsN]
theorem nds_cells {w : World} {b off : Nat} {es : List Nd} (h : NdsAt w b off es) : ∀ j u, (cellsN es)[j]? = some u → w.cell? ((⟨b, off, none⟩ : Addr).add j) = some u := by
  intro j u hu
  have hj : j < es.length * 7 := by rw [← length_cellsN]; exact (List.getElem?_eq_some_iff.1 hu).1
  obtain ⟨e, he⟩ : ∃ e, es[j / 7]? = some e := ⟨_, List.getElem?_eq_getElem (by omega)⟩
  have hg := cellsN_get es (j / 7) e he (j % 7) (Nat.mod_lt _ (by omega))
  rw [show j / 7 * 7 + j % 7 = j by omega, hu] at hg
  obtain ⟨c0, c1, c2, c3, c4, c5, c6⟩ := h (j / 7) e he
  rw [Addr.add_mid, show off + j = off + j / 7 * 7 + j % 7 by omega]
  have hm : j % 7 < 7 := Nat.mod_lt _ (by omega)
  generalize j % 7 = m at *
  match m, hm, hg with
  | 0, _, hg => rw [Nat.add_zero, c0, hg]; rfl
  | 1, _, hg => rw [c1, hg]; rfl
  | 2, _, hg => rw [c2, hg]; rfl
  | 3, _, hg => rw [c3, hg]; rfl
  | 4, _, hg => rw [c4, hg]; rfl
  | 5, _, hg => rw [c5, hg]; rfl
  | 6, _, hg => rw [c6, hg]; rfl
theorem nds_one (es : List Nd) : ∀ u ∈ cellsN es, u.oneCell' = true := by
  intro u hu
  unfold cellsN at hu
  obtain ⟨e, _, he⟩ := List.mem_flatMap.1 hu
  simp at he
  rcases he with rfl | rfl | rfl | rfl | rfl | rfl | rfl <;> rfl
/-- Nodes appended to a row of the call's own. -/
theorem wpList_append_nd {ops : Array Oper} {rest : List Oper} {o : Oper} {a : Act} {Q : Exit → Act → World → Prop} (w : World) (hgd : o.guard = none) (s x : Operand)
    (ho : o.op = .call { callee := .builtin .append, args := #[s, x], argTypes := #[23, 23] })
    (base g cp n b off m cx : Nat) (fs es : List Nd) (hs : a.eval s = .slice (some ⟨g, 0, none⟩) n cp) (hx : a.eval x = .slice (some ⟨b, off, none⟩) m cx) (hn : n = fs.length) (hm : m = es.length) (hO : OwnNd w base g cp fs)
    (hc : NdsAt w b off es) (hlen : fs.length + es.length ≤ 2 ^ 30) (hbase : base ≤ w.heap.size)
    (h : ∀ g' cp' w', OwnNd w' base g' cp' (fs ++ es) → w.grownBy w' (some g) → (g' = g ∨ g' = w.heap.size) → wpList Tryz.prog ops Q rest (a.put o.dst (.slice (some ⟨g', 0, none⟩) (n + m) cp')) w') : wpList Tryz.prog ops Q (o :: rest) a w := by
  subst hn hm
  obtain ⟨i, hi, hz0, hz1, hz2⟩ := info_parts Tryz.infoNd
  refine wpList_append_own_at w hgd s x 23 ho base 65 i _ 7 72 Tryz.underlying23 hi hz0 hz1 hz2 rfl (by decide) (.slice (some ⟨g, 0, none⟩) fs.length cp) fs.length (cellsN fs) hs hO ⟨b, off, none⟩ es.length cx (cellsN es) hx (length_cellsN es) (nds_cells hc) (nds_one es) ?_ ?_ hbase ?_
  · unfold maxLen; omega
  · omega
  · intro v' w' hO' hgr hnil hat
    rcases hO'.2 with ⟨h0, _⟩ | ⟨g', cap', cur, hv, _, _, hn, hcap, _, _⟩
    · have := (hnil.1 h0).1
      cases this
    · subst hv
      refine h g' cap' w' ?_ hgr ?_
      · unfold OwnNd
        rw [List.length_append, cellsN_append]
        exact hO'
      · simp [Value.ownBlock] at hat
        exact hat
theorem flat_take {α : Type} {ns : List (List α)} {k : Nat} {y : List α} (h : ns[k]? = some y) : (ns.take (k + 1)).flatten = (ns.take k).flatten ++ y := by
  rw [List.take_add_one, h]
  simp
theorem flat_le {α : Type} (ns : List (List α)) (k : Nat) : (ns.take k).flatten.length ≤ ns.flatten.length := by
  have h : ns.flatten = (ns.take k).flatten ++ (ns.drop k).flatten := by
    rw [← List.flatten_append, List.take_append_drop]
  rw [h, List.length_append]
  omega
end Go.Proofs.YtgnpcenpcmdlfaaGreatDoor

/-
  Rows of structs in memory of the call's own: spec's tokens and what waits.
-/
namespace Go.Proofs.YtgnpcenpcmdlfaaGreatDoor
open Go.ChangeShapes Go.WideShapes Go.ChangeAt Go.RowKit Go.Deep
set_option linter.unusedVariables false
set_option linter.unusedSimpArgs false
set_option maxRecDepth 100000

section
variable {α : Type} {f : α → List Value} {sz : Nat}
theorem gFlat_len (hf : ∀ x, (f x).length = sz) (es : List α) : (es.flatMap f).length = es.length * sz := by
  induction es with
  | nil => simp
  | cons e es ih => rw [List.flatMap_cons, List.length_append, ih, hf, List.length_cons, Nat.add_mul]; omega
theorem gFlat_get (hf : ∀ x, (f x).length = sz) : ∀ (es : List α) (k : Nat) (e : α), es[k]? = some e → ∀ j, j < sz → (es.flatMap f)[k * sz + j]? = (f e)[j]?
  | [], k, e, h, j, hj => by simp at h
  | a :: es, 0, e, h, j, hj => by
    simp at h; subst h
    rw [List.flatMap_cons, List.getElem?_append_left (by rw [hf]; omega)]
    simp
  | a :: es, k + 1, e, h, j, hj => by
    simp at h
    rw [List.flatMap_cons, List.getElem?_append_right (by rw [hf, Nat.add_mul]; omega), hf]
    rw [show (k + 1) * sz + j - sz = k * sz + j by rw [Nat.add_mul]; omega]
    exact gFlat_get hf es k e h j hj
theorem gFlat_take (hf : ∀ x, (f x).length = sz) : ∀ (es : List α) (k : Nat), k ≤ es.length → (es.take k).flatMap f = (es.flatMap f).take (k * sz)
  | es, 0, _ => by simp
  | [], k + 1, h => by simp at h
  | a :: es, k + 1, h => by
    rw [List.take_succ_cons, List.flatMap_cons, List.flatMap_cons, gFlat_take hf es k (by simpa using h), List.take_append, hf, List.take_of_length_le (l := f a) (by rw [hf, Nat.add_mul]; omega), show (k + 1) * sz - sz = k * sz by rw [Nat.add_mul]; omega]
def OwnG (f : α → List Value) (sz ty : Nat) (w : World) (base g cap : Nat) (es : List α) : Prop := w.ownsRow base ty sz (.slice (some ⟨g, 0, none⟩) es.length cap) es.length (es.flatMap f)
variable {ty : Nat}
theorem OwnG.cell (hf : ∀ x, (f x).length = sz) {w : World} {base g cap : Nat} {es : List α} (h : OwnG f sz ty w base g cap es) {i : Nat} {e : α} (he : es[i]? = some e) (j : Nat) (hj : j < sz) : w.cell? ⟨g, i * sz + j, none⟩ = (f e)[j]? := by
  have hi : i < es.length := (List.getElem?_eq_some_iff.1 he).1
  have h1 : i * sz + j < es.length * sz := by
    have : (i + 1) * sz ≤ es.length * sz := Nat.mul_le_mul_right sz hi
    rw [Nat.add_mul] at this
    omega
  have := (World.ownsRow.cellAt h (i * sz + j) h1).trans (gFlat_get hf es i e he j hj)
  simpa using this
theorem OwnG.lt {w : World} {base g cap : Nat} {es : List α} (h : OwnG f sz ty w base g cap es) : base ≤ g ∧ g < w.heap.size := World.ownsRow.lt h g rfl
theorem OwnG.chg {S : Nat → Prop} {w w' : World} {base g cap : Nat} {es : List α} (h : OwnG f sz ty w base g cap es) (hc : Chg S w w') (hn : ¬ S g) : OwnG f sz ty w' base g cap es := own_chg h hc (fun k q => by simp [Value.ownBlock] at q; subst q; exact hn)
theorem OwnG.below {w w' : World} {base g cap : Nat} {es : List α} (h : OwnG f sz ty w base g cap es) (hb : Below w.heap.size w w') : OwnG f sz ty w' base g cap es := h.chg (Chg.of_below hb) (S := fun _ => False) (fun q => q)
theorem OwnG.mono {w : World} {base base' g cap : Nat} {es : List α} (h : OwnG f sz ty w base g cap es) (hb : base' ≤ base) : OwnG f sz ty w base' g cap es := by
  refine ⟨h.1, ?_⟩
  rcases h.2 with hn | ⟨g', cap', cur, hv, h1, rest⟩
  · exact .inl hn
  · exact .inr ⟨g', cap', cur, hv, Nat.le_trans hb h1, rest⟩
theorem OwnG.caps {w : World} {base g cap : Nat} {es : List α} (h : OwnG f sz ty w base g cap es) : es.length ≤ cap ∧ cap ≤ maxLen := by
  rcases h.2 with ⟨h0, _⟩ | ⟨g', cap', cur, hv, _, _, hn, hcap, _, _⟩
  · cases h0
  · simp only [Value.slice.injEq, Option.some.injEq, Addr.mk.injEq, and_true, true_and] at hv
    obtain ⟨rfl, rfl⟩ := hv
    exact ⟨hn, hcap⟩
theorem OwnG.take (hf : ∀ x, (f x).length = sz) {w : World} {base g cap : Nat} {es : List α} (h : OwnG f sz ty w base g cap es) {k : Nat} (hk : k ≤ es.length) : OwnG f sz ty w base g cap (es.take k) := by
  have hl : (es.take k).length = k := by rw [List.length_take]; omega
  rcases h.2 with ⟨h0, _⟩ | ⟨g', cap', cur, hv, h1, h2, h3, h4, h5, h6⟩
  · cases h0
  · simp only [Value.slice.injEq, Option.some.injEq, Addr.mk.injEq, and_true, true_and] at hv
    obtain ⟨rfl, rfl⟩ := hv
    refine ⟨gFlat_len hf _, .inr ⟨g, cap, cur, rfl, h1, h2, by omega, h4, h5, ?_⟩⟩
    rw [hl, gFlat_take hf es k hk, ← h6, List.take_take]
    congr 1
    have := Nat.mul_le_mul_right sz hk
    omega
theorem ownG_new (w : World) {base : Nat} (hb : base ≤ w.heap.size) : OwnG f sz ty (w.alloc (Obj.cells #[] ty)) base w.heap.size 0 [] :=
  World.ownsRow_made w #[] 0 hb (Nat.zero_le _) (by simp)
end
/-- A token as spec has it. -/
def tkN : TkK → Int
  | .word _ => 1
  | .num _ => 2
  | .str _ => 3
  | .sign _ => 4
  | .fin => 5
  | .bad => 6
def wordT (k : Int) : ByteArray := if k = 16 then ⟨#[105, 102]⟩ else wordA k
def tkT : TkK → ByteArray
  | .word k => wordT k
  | .str s => s
  | .sign b => if b = 46 then ⟨#[46, 46]⟩ else ⟨#[b]⟩
  | _ => ⟨#[]⟩
abbrev tkV (k : Tk) : List Value := [.int .i64 (tkN k.k), .int .u64 k.k.nm, .string (tkT k.k), .int .i64 (k.pos : Int)]
abbrev enV (e : Int × Nat) : List Value := [.int .i64 e.1, .int .i64 (e.2 : Int)]
theorem tkV_len (x : Tk) : (tkV x).length = 4 := rfl
theorem Tryz.infoTk : (Tryz.prog.info? 80).map (fun i => (i.zero, i.size, i.bytes)) = some (some (.agg #[.int .i64 0, .int .u64 0, .string ⟨#[]⟩, .int .i64 0]), 4, 40) := by kernel_rfl
abbrev OwnTk (w : World) (base g cap : Nat) (es : List (Tk)) : Prop := OwnG tkV 4 80 w base g cap es
theorem wpList_append_Tk {ops : Array Oper} {rest : List Oper} {o : Oper} {a : Act} {Q : Exit → Act → World → Prop} (w : World) (hgd : o.guard = none) (s x : Operand)
    (ho : o.op = .call { callee := .builtin .append, args := #[s, x], argTypes := #[39, 39] })
    (base g cp n b cx : Nat) (fs : List (Tk)) (e : Tk) (hs : a.eval s = .slice (some ⟨g, 0, none⟩) n cp) (hx : a.eval x = .slice (some ⟨b, 0, none⟩) 1 cx) (hn : n = fs.length) (hO : OwnTk w base g cp fs)
    (hc : ∀ j u, (tkV e)[j]? = some u → w.cell? ⟨b, j, none⟩ = some u) (hlen : fs.length ≤ 1000000) (hbase : base ≤ w.heap.size)
    (h : ∀ g' cp' w', OwnTk w' base g' cp' (fs ++ [e]) → w.grownBy w' (some g) → (g' = g ∨ g' = w.heap.size) → wpList Tryz.prog ops Q rest (a.put o.dst (.slice (some ⟨g', 0, none⟩) (n + 1) cp')) w') : wpList Tryz.prog ops Q (o :: rest) a w := by
  subst hn
  obtain ⟨i, hi, hz0, hz1, hz2⟩ := info_parts Tryz.infoTk
  refine wpList_append_own_at w hgd s x 39 ho base 80 i _ 4 40 Tryz.underlying39 hi hz0 hz1 hz2 rfl (by decide) (.slice (some ⟨g, 0, none⟩) fs.length cp) fs.length (fs.flatMap tkV) hs hO ⟨b, 0, none⟩ 1 cx (tkV e) hx (by rw [tkV_len]) (fun j u hu => by rw [Addr.add_mid, Nat.zero_add]; exact hc j u hu) (fun u hu => by simp at hu; rcases hu with rfl | rfl | rfl | rfl <;> rfl) ?_ ?_ hbase ?_
  · unfold maxLen; omega
  · omega
  · intro v' w' hO' hgr hnil hat
    rcases hO'.2 with ⟨h0, _⟩ | ⟨g', cap', cur, hv, _, _, hn, hcap, _, _⟩
    · have := (hnil.1 h0).1
      cases this
    · subst hv
      refine h g' cap' w' ?_ hgr ?_
      · unfold OwnTk OwnG
        rw [List.length_append, List.length_singleton, List.flatMap_append, List.flatMap_singleton]
        exact hO'
      · simp [Value.ownBlock] at hat
        exact hat
theorem enV_len (x : Int × Nat) : (enV x).length = 2 := rfl
theorem Tryz.infoEn : (Tryz.prog.info? 86).map (fun i => (i.zero, i.size, i.bytes)) = some (some (.agg #[.int .i64 0, .int .i64 0]), 2, 16) := by kernel_rfl
abbrev OwnEn (w : World) (base g cap : Nat) (es : List (Int × Nat)) : Prop := OwnG enV 2 86 w base g cap es
theorem wpList_append_En {ops : Array Oper} {rest : List Oper} {o : Oper} {a : Act} {Q : Exit → Act → World → Prop} (w : World) (hgd : o.guard = none) (s x : Operand)
    (ho : o.op = .call { callee := .builtin .append, args := #[s, x], argTypes := #[78, 78] })
    (base g cp n b cx : Nat) (fs : List (Int × Nat)) (e : Int × Nat) (hs : a.eval s = .slice (some ⟨g, 0, none⟩) n cp) (hx : a.eval x = .slice (some ⟨b, 0, none⟩) 1 cx) (hn : n = fs.length) (hO : OwnEn w base g cp fs)
    (hc : ∀ j u, (enV e)[j]? = some u → w.cell? ⟨b, j, none⟩ = some u) (hlen : fs.length ≤ 1000000) (hbase : base ≤ w.heap.size)
    (h : ∀ g' cp' w', OwnEn w' base g' cp' (fs ++ [e]) → w.grownBy w' (some g) → (g' = g ∨ g' = w.heap.size) → wpList Tryz.prog ops Q rest (a.put o.dst (.slice (some ⟨g', 0, none⟩) (n + 1) cp')) w') : wpList Tryz.prog ops Q (o :: rest) a w := by
  subst hn
  obtain ⟨i, hi, hz0, hz1, hz2⟩ := info_parts Tryz.infoEn
  refine wpList_append_own_at w hgd s x 78 ho base 86 i _ 2 16 Tryz.underlying78 hi hz0 hz1 hz2 rfl (by decide) (.slice (some ⟨g, 0, none⟩) fs.length cp) fs.length (fs.flatMap enV) hs hO ⟨b, 0, none⟩ 1 cx (enV e) hx (by rw [enV_len]) (fun j u hu => by rw [Addr.add_mid, Nat.zero_add]; exact hc j u hu) (fun u hu => by simp at hu; rcases hu with rfl | rfl <;> rfl) ?_ ?_ hbase ?_
  · unfold maxLen; omega
  · omega
  · intro v' w' hO' hgr hnil hat
    rcases hO'.2 with ⟨h0, _⟩ | ⟨g', cap', cur, hv, _, _, hn, hcap, _, _⟩
    · have := (hnil.1 h0).1
      cases this
    · subst hv
      refine h g' cap' w' ?_ hgr ?_
      · unfold OwnEn OwnG
        rw [List.length_append, List.length_singleton, List.flatMap_append, List.flatMap_singleton]
        exact hO'
      · simp [Value.ownBlock] at hat
        exact hat
theorem alloc_cells (w : World) (cs : List Value) (ty : Nat) : ∀ j u, cs[j]? = some u → (w.alloc (Obj.cells cs.toArray ty)).cell? ⟨w.heap.size, j, none⟩ = some u := by
  intro j u hu
  rw [World.cell?_alloc_new]
  simpa using hu
end Go.Proofs.YtgnpcenpcmdlfaaGreatDoor

/-
  spec.l5Fail, l5IsSym, l5Makes, l5Ends, l5Open.
-/
namespace Go.Proofs.YtgnpcenpcmdlfaaGreatDoor
open Go.ChangeShapes Go.WideShapes Go.ChangeAt Go.RowKit Go.Deep
set_option linter.unusedVariables false
set_option linter.unusedSimpArgs false
set_option maxRecDepth 100000

abbrev parV (g N cp : Nat) (i nd : Nat) (er : Int) (pa : Nat) : Value := .agg #[.slice (some ⟨g, 0, none⟩) N cp, .int .i64 (i : Int), .int .i64 (nd : Int), .int .i64 er, .int .i64 (pa : Int)]
theorem par_boxes {w W0 : World} (v u : List Value) {t : Nat} (h : W0 = (w.alloc (Obj.cells v.toArray t)).alloc (Obj.cells u.toArray t)) : BoxAt W0 w.heap.size t v.length w.heap.size v ∧ BoxAt W0 w.heap.size t u.length (w.heap.size + 1) u ∧ Below w.heap.size w W0 := by
  obtain ⟨X, hX⟩ : ∃ X : World, X = w.alloc (Obj.cells v.toArray t) := ⟨_, rfl⟩
  have z : X.heap.size = w.heap.size + 1 := by rw [hX]; simp
  have b1 := boxAt_new w (base := w.heap.size) (t := t) (sz := v.length) v.toArray (Nat.le_refl _) (by simp)
  have k1 : Below w.heap.size w X := by rw [hX]; exact (Below.refl _ _).alloc (Nat.le_refl _) _
  rw [← hX] at b1 h
  have k2 : Below X.heap.size X W0 := by rw [h]; exact (Below.refl _ _).alloc (Nat.le_refl _) _
  have b2 := boxAt_new X (base := w.heap.size) (t := t) (sz := u.length) u.toArray (by omega) (by simp)
  rw [← h, z] at b2
  exact ⟨b1.below k2, b2, k1.trans (k2.mono (by omega))⟩
def setP (w : World) (g : Nat) (a b c d e : Value) : World := ((((w.setCell ⟨g, 0, none⟩ a).setCell ⟨g, 1, none⟩ b).setCell ⟨g, 2, none⟩ c).setCell ⟨g, 3, none⟩ d).setCell ⟨g, 4, none⟩ e
theorem BoxAt.setP {w : World} {base t g : Nat} {vs : List Value} (h : BoxAt w base t 5 g vs) (a b c d e : Value) : BoxAt (Go.Proofs.YtgnpcenpcmdlfaaGreatDoor.setP w g a b c d e) base t 5 g [a, b, c, d, e] := by
  have h1 := ((((h.set 0 a).set 1 b).set 2 c).set 3 d).set 4 e
  have hl := h.len
  match vs, hl with
  | [_, _, _, _, _], _ => exact h1
theorem below_setP {B : Nat} {x w : World} (h : Below B x w) {k : Nat} (hk : B ≤ k) (a b c d e : Value) : Below B x (setP w k a b c d e) := below_set (below_set (below_set (below_set (below_set h hk 0 a) hk 1 b) hk 2 c) hk 3 d) hk 4 e
theorem tkN_bad {k : TkK} : tkN k = 6 ↔ k.isBad = true := by cases k <;> simp [tkN, TkK.isBad]
theorem tk_cells {w : World} {base g cp : Nat} {ks : List Tk} (h : OwnTk w base g cp ks) {i : Nat} {k : Tk} (hk : ks[i]? = some k) :
    w.cell? ⟨g, i * 4, none⟩ = some (.int .i64 (tkN k.k)) ∧ w.cell? ⟨g, i * 4 + 1, none⟩ = some (.int .u64 k.k.nm) ∧ w.cell? ⟨g, i * 4 + 2, none⟩ = some (.string (tkT k.k)) ∧ w.cell? ⟨g, i * 4 + 3, none⟩ = some (.int .i64 (k.pos : Int)) :=
  ⟨h.cell tkV_len hk 0 (by omega), h.cell tkV_len hk 1 (by omega), h.cell tkV_len hk 2 (by omega), h.cell tkV_len hk 3 (by omega)⟩
set_option maxHeartbeats 4000000 in
theorem l5Fail_core {w : World} {base g N cp : Nat} {ks : List Tk} (h : OwnTk w base g cp ks) (hN : N = ks.length) (hl : N ≤ 1000000) {i : Nat} {k : Tk} (hk : ks[i]? = some k) (nd : Nat) (er : Int) (pa : Nat) (c : Int) :
    Calls Tryz.prog 46 #[parV g N cp i nd er pa, .int .i64 c] w fun e w' => e = .returned (parV g N cp i nd (if k.k.isBad = true then 2 else c) k.pos) ∧ Below w.heap.size w w' := by
  obtain ⟨c0, c1, c2, c3⟩ := tk_cells h hk
  have hg := h.lt.2
  have hi : i < N := by rw [hN]; exact (List.getElem?_eq_some_iff.1 hk).1
  have zi : (i : Int) < (N : Int) := by omega
  clear h hk hN
  have HB : Hid (Below w.heap.size w w) := Below.refl _ _
  cases hb : k.k.isBad
  case false =>
    have z6 : (tkN k.k == 6) = false := by
      rw [beq_eq_false_iff_ne]; intro q; rw [tkN_bad.1 q] at hb; cases hb
    go_enter Tryz.func46, Tryz.ntmps46
    go_wp2_with fail
    refine bodyPost_ret (v := parV g N cp i nd c k.pos) (by simp [results, Tryz.results46, go_sem]) rfl ⟨by simp, ?_⟩
    first
      | exact ((Below.refl _ _).alloc (Nat.le_refl _) _).alloc (by simp) _
      | (repeat (first | exact Below.refl _ _ | refine Below.alloc ?_ (by simp) _))
  case true =>
    have z6 : (tkN k.k == 6) = true := by rw [beq_iff_eq]; exact tkN_bad.2 hb
    go_enter Tryz.func46, Tryz.ntmps46
    go_wp2_with fail
    refine bodyPost_ret (v := parV g N cp i nd 2 k.pos) (by simp [results, Tryz.results46, go_sem]) rfl ⟨by simp, ?_⟩
    exact ((Below.refl _ _).alloc (Nat.le_refl _) _).alloc (by simp) _
/-- The text of a sign, and of no other token. -/
theorem sym_iff (k : TkK) (hk : k.good ∨ k = .fin ∨ k = .bad) (b : UInt8) (s : ByteArray) (hs : s.toList = if b = 46 then [46, 46] else [b]) : (tkN k = 4 ∧ (tkT k).toList = s.toList) ↔ k.isSign b = true := by
  rw [hs]
  cases k with
  | sign c =>
    simp only [tkN, tkT, TkK.isSign, true_and, beq_iff_eq]
    by_cases h1 : c = 46
    · by_cases h2 : b = 46
      · simp [h1, h2]
      · rw [if_pos h1, if_neg h2, ByteArray.toList_eq]
        constructor
        · intro q; simp at q
        · intro q; exact absurd (q.symm.trans h1) h2
    · rw [if_neg h1]
      by_cases h2 : b = 46
      · rw [if_pos h2, ByteArray.toList_eq]
        constructor
        · intro q; simp at q
        · intro q; exact absurd (q.trans h2) h1
      · rw [if_neg h2, ByteArray.toList_eq]
        constructor
        · intro q; simpa using q
        · intro q; simp [q]
  | _ => simp [tkN, TkK.isSign]
set_option maxHeartbeats 4000000 in
theorem l5IsSym_core {w : World} {base g N cp : Nat} {ks : List Tk} (h : OwnTk w base g cp ks) (hN : N = ks.length) (hl : N ≤ 1000000) {i : Nat} {k : Tk} (hk : ks[i]? = some k) (hg : k.k.good ∨ k.k = .fin ∨ k.k = .bad) (nd : Nat) (er : Int) (pa : Nat) (b : UInt8) (s : ByteArray) (hs : s.toList = if b = 46 then [46, 46] else [b]) :
    Calls Tryz.prog 48 #[parV g N cp i nd er pa, .string s] w fun e w' => e = .returned (.bool (k.k.isSign b)) ∧ Below w.heap.size w w' := by
  obtain ⟨c0, c1, c2, c3⟩ := tk_cells h hk
  have hgl := h.lt.2
  have hi : i < N := by rw [hN]; exact (List.getElem?_eq_some_iff.1 hk).1
  have zi : (i : Int) < (N : Int) := by omega
  have HS : Hid ((tkN k.k = 4 ∧ (tkT k.k).toList = s.toList) ↔ k.k.isSign b = true) := sym_iff k.k hg b s hs
  obtain ⟨r, hr⟩ : ∃ r, r = k.k.isSign b := ⟨_, rfl⟩
  rw [← hr] at HS ⊢
  obtain ⟨kn, hkn⟩ : ∃ kn, kn = tkN k.k := ⟨_, rfl⟩
  obtain ⟨kt, hkt⟩ : ∃ kt, kt = tkT k.k := ⟨_, rfl⟩
  rw [← hkn] at c0 HS
  rw [← hkt] at c2 HS
  clear h hk hN hg hs hr hkn hkt c1 c3
  by_cases h4 : kn = 4
  · have z4 : (kn == 4) = true := by rw [beq_iff_eq]; exact h4
    by_cases ht : kt.toList = s.toList
    · have zt : (kt.toList == s.toList) = true := by rw [beq_iff_eq]; exact ht
      obtain rfl : r = true := HS.out.1 ⟨h4, ht⟩
      clear h4 ht
      go_enter Tryz.func48, Tryz.ntmps48
      go_wp2_with fail
      go_ret
      exact ⟨rfl, (Below.refl _ _).alloc (Nat.le_refl _) _⟩
    · have zt : (kt.toList == s.toList) = false := by rw [beq_eq_false_iff_ne]; exact ht
      obtain rfl : r = false := by cases r with
        | false => rfl
        | true => exact absurd (HS.out.2 rfl).2 ht
      clear h4 ht
      go_enter Tryz.func48, Tryz.ntmps48
      go_wp2_with fail
      go_ret
      exact ⟨rfl, (Below.refl _ _).alloc (Nat.le_refl _) _⟩
  · have z4 : (kn == 4) = false := by rw [beq_eq_false_iff_ne]; exact h4
    obtain rfl : r = false := by cases r with
      | false => rfl
      | true => exact absurd (HS.out.2 rfl).1 h4
    clear h4
    go_enter Tryz.func48, Tryz.ntmps48
    go_wp2_with fail
    go_ret
    exact ⟨rfl, (Below.refl _ _).alloc (Nat.le_refl _) _⟩
set_option maxHeartbeats 4000000 in
theorem l5Makes_core {w : World} {base g N cp : Nat} {ks : List Tk} (h : OwnTk w base g cp ks) (hN : N = ks.length) (hl : N ≤ 1000000) {i : Nat} {k : Tk} (hk : ks[i]? = some k) (hkb : k.k.isBad = false) (nd : Nat) (hnd : nd ≤ 200) (pa : Nat) :
    Calls Tryz.prog 47 #[parV g N cp i nd 0 pa] w fun e w' => Below w.heap.size w w' ∧ ((nd < 200 ∧ e = .returned (parV g N cp (i + 1) (nd + 1) 0 pa)) ∨ (¬ nd < 200 ∧ e = .returned (parV g N cp i nd 5 k.pos))) := by
  have hi : i < N := by rw [hN]; exact (List.getElem?_eq_some_iff.1 hk).1
  by_cases h2 : nd = 200
  · subst h2
    have HF : Hid (∀ wx, Below w.heap.size w wx → Calls Tryz.prog 46 #[parV g N cp i 200 0 pa, .int .i64 5] wx fun e w' => e = .returned (parV g N cp i 200 5 k.pos) ∧ Below wx.heap.size wx w') := fun wx hx => by
      have h9 := l5Fail_core (h.chg (S := fun _ => False) (Chg.of_below hx) (fun q => q)) hN hl hk 200 0 pa 5
      rw [hkb] at h9
      simpa using h9
    obtain ⟨W0, hW0⟩ : ∃ W0 : World, W0 = (w.alloc (Obj.cells #[.slice (some ⟨g, 0, none⟩) N cp, .int .i64 (i : Int), .int .i64 (200 : Int), .int .i64 0, .int .i64 (pa : Int)] 41)).alloc (Obj.cells #[.slice none 0 0, .int .i64 0, .int .i64 0, .int .i64 0, .int .i64 0] 41) := ⟨_, rfl⟩
    have HW0 : Hid (BoxAt W0 w.heap.size 41 5 w.heap.size [.slice (some ⟨g, 0, none⟩) N cp, .int .i64 (i : Int), .int .i64 (200 : Int), .int .i64 0, .int .i64 (pa : Int)] ∧ BoxAt W0 w.heap.size 41 5 (w.heap.size + 1) [.slice none 0 0, .int .i64 0, .int .i64 0, .int .i64 0, .int .i64 0] ∧ Below w.heap.size w W0) := par_boxes _ _ hW0
    clear h hk hkb hN
    have q0 := HW0.out.1.cell (j := 0) rfl
    have q1 := HW0.out.1.cell (j := 1) rfl
    have q2 := HW0.out.1.cell (j := 2) rfl
    have q3 := HW0.out.1.cell (j := 3) rfl
    have q4 := HW0.out.1.cell (j := 4) rfl
    go_enter Tryz.func47, Tryz.ntmps47
    go_upto_region 1 with fail
    rw [← hW0]
    clear hW0
    go_wp2_with fail
    refine (HF.out W0 HW0.out.2.2).mono ?_
    rintro e w1 ⟨rfl, hb1⟩
    have HW1 : Hid (BoxAt w1 w.heap.size 41 5 (w.heap.size + 1) [.slice none 0 0, .int .i64 0, .int .i64 0, .int .i64 0, .int .i64 0] ∧ Below w.heap.size w w1) := ⟨HW0.out.2.1.below hb1, HW0.out.2.2.trans (hb1.mono HW0.out.2.2.size)⟩
    clear hb1 q0 q1 q2 q3 q4
    obtain ⟨W2, hW2⟩ : ∃ W2 : World, W2 = setP w1 (w.heap.size + 1) (.slice (some ⟨g, 0, none⟩) N cp) (.int .i64 (i : Int)) (.int .i64 (200 : Int)) (.int .i64 5) (.int .i64 (k.pos : Int)) := ⟨_, rfl⟩
    have hB2 := HW1.out.1.setP (.slice (some ⟨g, 0, none⟩) N cp) (.int .i64 (i : Int)) (.int .i64 (200 : Int)) (.int .i64 5) (.int .i64 (k.pos : Int))
    have hk2 := below_setP HW1.out.2 (k := w.heap.size + 1) (by omega) (.slice (some ⟨g, 0, none⟩) N cp) (.int .i64 (i : Int)) (.int .i64 (200 : Int)) (.int .i64 5) (.int .i64 (k.pos : Int))
    rw [← hW2] at hB2 hk2
    have HB2 : Hid (Below w.heap.size w W2) := hk2
    have p0 := hB2.cell (j := 0) rfl
    have p1 := hB2.cell (j := 1) rfl
    have p2 := hB2.cell (j := 2) rfl
    have p3 := hB2.cell (j := 3) rfl
    have p4 := hB2.cell (j := 4) rfl
    have l0 := HW1.out.1.cell (j := 0) rfl
    have l1 := HW1.out.1.cell (j := 1) rfl
    have l2 := HW1.out.1.cell (j := 2) rfl
    have l3 := HW1.out.1.cell (j := 3) rfl
    have l4 := HW1.out.1.cell (j := 4) rfl
    have f0 := HW1.out.1.frozen 0
    have f1 := HW1.out.1.frozen 1
    have f2 := HW1.out.1.frozen 2
    have f3 := HW1.out.1.frozen 3
    have f4 := HW1.out.1.frozen 4
    unfold setP at hW2
    clear hB2 hk2
    go_wp2_with fail
    rw [← hW2]
    exact bodyPost_ret (v := parV g N cp i 200 5 k.pos) (by simp [results, Tryz.results47, go_sem, p0, p1, p2, p3, p4]) rfl ⟨HB2.out, .inr ⟨by omega, rfl⟩⟩
  · have z2 : ((nd : Int) == 200) = false := by rw [beq_eq_false_iff_ne]; omega
    clear h hk hkb hN
    go_enter Tryz.func47, Tryz.ntmps47
    go_wp2_with fail
    refine bodyPost_ret (v := parV g N cp (i + 1) (nd + 1) 0 pa) (by simp [results, Tryz.results47, go_sem]) rfl ⟨?_, .inl ⟨by omega, rfl⟩⟩
    exact ((Below.refl _ _).alloc (Nat.le_refl _) _).alloc (by simp) _
set_option maxHeartbeats 2000000 in
theorem l5Open_core {w : World} {base g cp : Nat} {st : List (Int × Nat)} (h : OwnEn w base g cp st.reverse) (hl : st.length ≤ 1000000) :
    Calls Tryz.prog 45 #[.slice (some ⟨g, 0, none⟩) st.length cp] w fun e w' => e = .returned (.int .i64 (openF st : Int)) ∧ w' = w := by
  have HO : Hid (OwnEn w base g cp st.reverse) := h
  have hg := h.lt.2
  have hcp := h.caps
  obtain ⟨n, hn⟩ : ∃ n, n = st.length := ⟨_, rfl⟩
  have HN : Hid (n = st.length) := hn
  rw [← hn] at hl ⊢
  clear h hn hcp
  go_enter Tryz.func45, Tryz.ntmps45
  go_wp2_with fail
  go_loopw [3, 4] (fun nv iv wr => ∃ (i m : Nat), iv = .int .i64 (i : Int) ∧ nv = .int .i64 (m : Int) ∧ i ≤ n ∧ m ≤ i ∧ m = openF (st.drop (n - i)) ∧ wr = w) (fun _ iv _ => n - (intOf iv).toNat)
  case atStart => exact ⟨0, 0, rfl, rfl, Nat.zero_le _, Nat.le_refl _, by rw [Nat.sub_zero, HN.out, List.drop_length]; rfl, rfl⟩
  case round =>
    obtain ⟨i, m, rfl, rfl, hi, hmi, hM, rfl⟩ := hrel
    have HM : Hid (m = openF (st.drop (n - i))) := hM
    clear hM
    by_cases hin : i < n
    · have zi : (i : Int) < (n : Int) := by omega
      obtain ⟨e, he⟩ : ∃ e, st[n - 1 - i]? = some e := ⟨_, List.getElem?_eq_getElem (by have := HN.out; omega)⟩
      have hr : st.reverse[i]? = some e := by rw [List.getElem?_reverse (by have := HN.out; omega), ← HN.out]; exact he
      have c0 := HO.out.cell enV_len hr 0 (by omega)
      simp at c0
      have HS : Hid (openF (st.drop (n - (i + 1))) = m + if 2 < e.1 then 1 else 0) := by
        show _ = _
        have hlt : n - 1 - i < st.length := (List.getElem?_eq_some_iff.1 he).1
        rw [show n - (i + 1) = n - 1 - i by omega, List.drop_eq_getElem_cons hlt, show st[n - 1 - i] = e from Option.some.inj ((List.getElem?_eq_getElem hlt).symm.trans he), show n - 1 - i + 1 = n - i by omega, HM.out]
        rfl
      clear he hr
      by_cases h2 : 2 < e.1
      · rw [if_pos h2] at HS
        go_wp2_with fail
        go_roundw
        case rel => exact ⟨i + 1, m + 1, by go_num, by go_num, by omega, by omega, HS.out.symm, by first | rfl | trivial⟩
        case measure => simp [intOf]; omega
      · rw [if_neg h2] at HS
        go_wp2_with fail
        go_roundw
        case rel => exact ⟨i + 1, m, by go_num, by go_num, by omega, by omega, HS.out.symm, by first | rfl | trivial⟩
        case measure => simp [intOf]; omega
    · have zi : ¬ (i : Int) < (n : Int) := by omega
      have HE : Hid (m = openF st) := by
        show _ = _
        rw [HM.out, show n - i = 0 by omega]; rfl
      go_wp2_with fail
      go_ret
      exact ⟨by rw [← HE.out]; rfl, rfl⟩
end Go.Proofs.YtgnpcenpcmdlfaaGreatDoor

/-
  A region that draws its order and whose last operation stores: what is read ahead of it is taken first.
-/
namespace Go.Proofs.YtgnpcenpcmdlfaaGreatDoor
open Go.ChangeShapes Go.WideShapes Go.ChangeAt Go.RowKit Go.Deep
set_option linter.unusedVariables false

section
variable {P : Program} {ops : Array Oper} {Q : Exit → Act → World → Prop} {md : Region.Mode} {S : World → Prop} {L : Nat}

/-- Whatever order is picked: 'S' holds behind every operation but number 'L'. -/
def AnyT (P : Program) (md : Region.Mode) (ops : Array Oper) (Q : Exit → Act → World → Prop) (S : World → Prop) (L : Nat) : Nat → Array Bool → Act → World → Prop
  | 0, listed, a, w => Region.ready md ops listed = [] ∧ Q .normal a w
  | fuel + 1, listed, a, w =>
    (Region.ready md ops listed = [] → Q .normal a w) ∧
    ∀ i ∈ Region.ready md ops listed, wpOp P ops Q i (fun a' w' => (i = L ∨ S w') ∧ AnyT P md ops Q S L fuel (listed.setIfInBounds i true) a' w') a w
theorem any_of_T : ∀ (fuel : Nat) (listed : Array Bool) (a : Act) (w : World), AnyT P md ops Q S L fuel listed a w → wpAny P md ops Q fuel listed a w
  | 0, _, _, _, h => h
  | fuel + 1, _, _, _, h => ⟨h.1, fun i hi => wpOp_mono (fun a' w' h' => any_of_T fuel _ a' w' h'.2) (h.2 i hi)⟩
/-- Operation 'L' waits for number 'i'. -/
def waitsT (md : Region.Mode) (ops : Array Oper) (L i : Nat) : Bool := ((ops[L]?).map (fun o => o.after.any fun e => Region.binds md e && e.on == i)).getD false
theorem anyT_first {i : Nat} {oi : Oper} {v : Value} (hi : ops[i]? = some oi) (hsel : ∀ (j : Nat) (o : Oper) cs b, ops[j]? = some o → o.op ≠ .select cs b)
    (hQ : ∀ c a w, Q (.panic c) (a.put oi.dst v) w → Q (.panic c) a w) (hL : waitsT md ops L i = true) (hne : i ≠ L) :
    ∀ (fuel : Nat) (listed : Array Bool) (a : Act) (w : World),
      (∀ j oj, ops[j]? = some oj → j ≠ i → listed.getD j true = false → (∀ e ∈ oj.after, Region.binds md e = true → e.on ≠ i) → oi.apart ops oj = true) →
      i ∈ Region.ready md ops listed → YieldsIf P ops S oi v a → S w →
      AnyT P md ops Q S L fuel (listed.setIfInBounds i true) (a.put oi.dst v) w → AnyT P md ops Q S L (fuel + 1) listed a w := by
  intro fuel
  induction fuel with
  | zero =>
    intro listed a w _ hr hy hS H
    refine ⟨fun h => (by rw [h] at hr; cases hr), fun j hj => ?_⟩
    by_cases hji : j = i
    · subst hji; exact hy.wpOp hi hS ⟨.inr hS, H⟩
    · have := ready_mono hj hji
      rw [H.1] at this
      cases this
  | succ fuel ih =>
    intro listed a w hfree hr hy hS H
    refine ⟨fun h => (by rw [h] at hr; cases hr), fun j hj => ?_⟩
    by_cases hji : j = i
    · subst hji; exact hy.wpOp hi hS ⟨.inr hS, H⟩
    · have h1 := H.2 j (ready_mono hj hji)
      obtain ⟨hjun, oj, hoj, hall⟩ := mem_ready.1 hj
      have hnot : ∀ e ∈ oj.after, Region.binds md e = true → e.on ≠ i := fun e he hb heq => by
        have h1 := hall e he hb
        have h0 := (mem_ready.1 hr).1
        rw [heq] at h1
        rcases Nat.lt_or_ge i listed.size with h' | h'
        · simp [h'] at h0 h1; rw [h0] at h1; cases h1
        · simp [Array.getElem?_eq_none h'] at h1
      have hjL : j ≠ L := fun q => by
        subst q
        unfold waitsT at hL
        rw [hoj] at hL
        simp only [Option.map_some, Option.getD_some, Array.any_eq_true] at hL
        obtain ⟨k, hk, hb⟩ := hL
        rw [Bool.and_eq_true, beq_iff_eq] at hb
        exact hnot _ (Array.getElem_mem hk) hb.1 hb.2
      have h2 := wpOp_putIf hoj (hfree j oj hoj hji hjun hnot) (fun cs b => hsel i oi cs b hi) (fun cs b => hsel j oj cs b hoj) hQ hy h1
      have hfree' : ∀ k ok, ops[k]? = some ok → k ≠ i → (listed.setIfInBounds j true).getD k true = false →
          (∀ e ∈ ok.after, Region.binds md e = true → e.on ≠ i) → oi.apart ops ok = true := fun k ok hk hki hun hno => by
        refine hfree k ok hk hki ?_ hno
        by_cases hjk : j = k
        · subst hjk; exact hjun
        · rw [getD_set_ne true hjk] at hun; exact hun
      refine wpOp_mono (fun a' w' h3 => ⟨h3.2.1, ih (listed.setIfInBounds j true) a' w' hfree' (ready_mono hr (Ne.symm hji)) h3.1 (h3.2.1.resolve_left hjL) ?_⟩) h2
      rw [Array.setIfInBounds_comm _ _ hji]
      exact h3.2.2
theorem anyT_take {i : Nat} {oi : Oper} {v : Value} {fuel : Nat} {listed : Array Bool} {a : Act} {w : World} (hi : ops[i]? = some oi)
    (hs : Region.noSelect ops = true) (hf : Region.free md ops listed i = true) (hr : (Region.ready md ops listed).contains i = true) (hL : waitsT md ops L i = true) (hne : i ≠ L)
    (hQ : ∀ c a w, Q (.panic c) (a.put oi.dst v) w → Q (.panic c) a w) (hy : YieldsIf P ops S oi v a) (hS : S w)
    (h : AnyT P md ops Q S L fuel (listed.setIfInBounds i true) (a.put oi.dst v) w) : AnyT P md ops Q S L (fuel + 1) listed a w :=
  anyT_first hi (Region.noSelect_spec hs) hQ hL hne fuel listed a w (Region.free_spec hi hf) (by simpa using hr) hy hS h
/-- One operation alone may come up. -/
theorem anyT_one {i : Nat} {o : Oper} {fuel : Nat} {listed : Array Bool} {a : Act} {w : World} (hr : Region.ready md ops listed = [i]) (ho : ops[i]? = some o)
    (h : ∀ K' : Act → World → Prop, Shut (∀ a w, (i = L ∨ S w) → AnyT P md ops Q S L fuel (listed.setIfInBounds i true) a w → K' a w) → if Region.wanted o (yielded ops a.tmps) = true then Oper.wp P o a w K' Q else K' (a.put o.dst undef) w) :
    AnyT P md ops Q S L (fuel + 1) listed a w := by
  refine ⟨fun h0 => (by rw [hr] at h0; cases h0), fun j hj => ?_⟩
  rw [hr] at hj
  simp at hj
  subst hj
  exact wpOp_step ho (fun K' hK => h K' (fun a w hS hW => hK a w ⟨hS, hW⟩))
/-- Either of two may come up. -/
theorem anyT_two {i j : Nat} {o q : Oper} {fuel : Nat} {listed : Array Bool} {a : Act} {w : World} (hr : Region.ready md ops listed = [i, j]) (ho : ops[i]? = some o) (hq : ops[j]? = some q)
    (h : ∀ K' : Act → World → Prop, Shut (∀ a w, (i = L ∨ S w) → AnyT P md ops Q S L fuel (listed.setIfInBounds i true) a w → K' a w) → if Region.wanted o (yielded ops a.tmps) = true then Oper.wp P o a w K' Q else K' (a.put o.dst undef) w)
    (h' : ∀ K' : Act → World → Prop, Shut (∀ a w, (j = L ∨ S w) → AnyT P md ops Q S L fuel (listed.setIfInBounds j true) a w → K' a w) → if Region.wanted q (yielded ops a.tmps) = true then Oper.wp P q a w K' Q else K' (a.put q.dst undef) w) :
    AnyT P md ops Q S L (fuel + 1) listed a w := by
  refine ⟨fun h0 => (by rw [hr] at h0; cases h0), fun k hk => ?_⟩
  rw [hr] at hk
  simp at hk
  rcases hk with rfl | rfl
  · exact wpOp_step ho (fun K' hK => h K' (fun a w hS hW => hK a w ⟨hS, hW⟩))
  · exact wpOp_step hq (fun K' hK => h' K' (fun a w hS hW => hK a w ⟨hS, hW⟩))
theorem anyT_done {fuel : Nat} {listed : Array Bool} {a : Act} {w : World} (hr : Region.ready md ops listed = []) (h : Q .normal a w) : AnyT P md ops Q S L fuel listed a w := by
  cases fuel with
  | zero => exact ⟨hr, h⟩
  | succ n => exact ⟨fun _ => h, by rw [hr]; simp⟩
theorem wp_region_T {id : Nat} {a : Act} {w : World} (L : Nat) (S : World → Prop) (hm : P.follows .mixedOrders = true)
    (h : AnyT P .any ops Q S L ops.size (Array.replicate ops.size false) a w.drew) : (Code.region id ops true).wp P Q a w :=
  wp_region_any hm (any_of_T _ _ _ _ h)
end
end Go.Proofs.YtgnpcenpcmdlfaaGreatDoor

