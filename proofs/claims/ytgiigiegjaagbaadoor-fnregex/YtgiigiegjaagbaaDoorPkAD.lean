import Derived.Maps.AppendAt
import Derived.Lib.ConvBytes
import Derived.Lib.TrailingZeros
import Derived.Laws.Bits64b
import Derived.RangeFuncNested
import Derived.RangeFuncBound
import Derived.RangeFuncCalls
import Derived.RangeFuncLeaves
import Derived.Shelf.Abstract
import Derived.Shelf.RegionOpen
import Derived.WalkKit
import Derived.OwnWalkIn
import Derived.TacticsInMore
import Derived.LoopNIn
import Derived.LoopIn
import Derived.Test.YtgiigiegjaagbaaDoorPkAA
import Derived.Test.YtgiigiegjaagbaaDoorPkAC
/-
  Bytes of a run's file: numbers, strings, fixed numbers, as lists (mathematics).
-/
namespace Go.Proofs.YtgiigiegjaagbaaDoor
set_option linter.unusedVariables false
set_option linter.unusedSimpArgs false

/-- The byte of a number. -/
def byt (n : Nat) : UInt8 := UInt8.ofNat n
theorem byt_nat {n : Nat} (h : n < 256) : (byt n).toNat = n := by
  unfold byt
  rw [UInt8.toNat_ofNat']
  exact Nat.mod_eq_of_lt h
theorem byt_self (x : UInt8) : byt x.toNat = x := by
  apply UInt8.toNat_inj.1
  rw [byt_nat (UInt8.toNat_lt x)]
theorem u8lt (x : UInt8) : x.toNat < 256 := UInt8.toNat_lt x

/-- A number, seven bits a byte, the last byte below 128. -/
def num (n : Nat) : List UInt8 := if n < 128 then [byt n] else byt (128 + n % 128) :: num (n / 128)
termination_by n
decreasing_by omega
theorem num_small {n : Nat} (h : n < 128) : num n = [byt n] := by rw [num, if_pos h]
theorem num_large {n : Nat} (h : ¬ n < 128) : num n = byt (128 + n % 128) :: num (n / 128) := by rw [num, if_neg h]
theorem num_ne (n : Nat) : num n ≠ [] := by
  by_cases h : n < 128
  · rw [num_small h]; simp
  · rw [num_large h]; simp
theorem num_pos (n : Nat) : 0 < (num n).length := List.length_pos_iff.2 (num_ne n)
theorem num_len : ∀ (k n : Nat), n < 128 ^ (k + 1) → (num n).length ≤ k + 1
  | 0, n, h => by rw [num_small (by simpa using h)]; simp
  | k + 1, n, h => by
    by_cases hs : n < 128
    · rw [num_small hs]; simp
    · rw [num_large hs]
      have := num_len k (n / 128) (by rw [Nat.div_lt_iff_lt_mul (by omega), ← Nat.pow_succ]; exact h)
      simp; omega
theorem num_len64 {n : Nat} (h : n < 2 ^ 64) : (num n).length ≤ 10 := num_len 9 n (Nat.lt_trans h (by decide))

/-- A number read off, of whatever size; none where the bytes end or the form is not the shortest. -/
def getAny : List UInt8 → Option (Nat × List UInt8)
  | [] => none
  | x :: t => if x.toNat < 128 then some (x.toNat, t) else
    match getAny t with
    | none => none
    | some (n, u) => if n = 0 then none else some (x.toNat - 128 + 128 * n, u)
theorem getAny_num : ∀ (n : Nat) (t : List UInt8), getAny (num n ++ t) = some (n, t) := by
  intro n
  induction n using Nat.strongRecOn with
  | ind n ih =>
    intro t
    by_cases h : n < 128
    · rw [num_small h, List.singleton_append, getAny, if_pos (by rw [byt_nat (by omega)]; exact h), byt_nat (by omega)]
    · rw [num_large h, List.cons_append, getAny, if_neg (by rw [byt_nat (by omega)]; omega), ih (n / 128) (by omega) t]
      simp only []
      rw [if_neg (by omega), byt_nat (by omega)]
      congr 2
      omega
theorem getAny_iff {xs t : List UInt8} {n : Nat} : getAny xs = some (n, t) ↔ xs = num n ++ t := by
  constructor
  · induction xs generalizing n t with
    | nil => intro h; cases h
    | cons x l ih =>
      intro h
      rw [getAny] at h
      by_cases hx : x.toNat < 128
      · rw [if_pos hx] at h
        simp only [Option.some.injEq, Prod.mk.injEq] at h
        obtain ⟨rfl, rfl⟩ := h
        rw [num_small hx, byt_self]; rfl
      · rw [if_neg hx] at h
        cases hg : getAny l with
        | none => rw [hg] at h; cases h
        | some p =>
          obtain ⟨m, u⟩ := p
          rw [hg] at h
          simp only [] at h
          by_cases hm : m = 0
          · rw [if_pos hm] at h; cases h
          · rw [if_neg hm] at h
            simp only [Option.some.injEq, Prod.mk.injEq] at h
            obtain ⟨rfl, rfl⟩ := h
            have hx2 := u8lt x
            rw [num_large (by omega), show (x.toNat - 128 + 128 * m) / 128 = m by omega, show 128 + (x.toNat - 128 + 128 * m) % 128 = x.toNat by omega, byt_self, ih hg]
            rfl
  · rintro rfl
    exact getAny_num n t
/-- A number below 2^64 read off. -/
def getNum (xs : List UInt8) : Option (Nat × List UInt8) :=
  match getAny xs with
  | none => none
  | some (n, t) => if n < 2 ^ 64 then some (n, t) else none
theorem getNum_iff {xs t : List UInt8} {n : Nat} : getNum xs = some (n, t) ↔ n < 2 ^ 64 ∧ xs = num n ++ t := by
  unfold getNum
  cases hg : getAny xs with
  | none =>
    simp only []
    constructor
    · intro h; cases h
    · rintro ⟨_, h⟩
      rw [getAny_iff.2 h] at hg; cases hg
  | some p =>
    obtain ⟨m, u⟩ := p
    have h1 := getAny_iff.1 hg
    simp only []
    constructor
    · intro h
      split at h
      · simp only [Option.some.injEq, Prod.mk.injEq] at h
        obtain ⟨rfl, rfl⟩ := h
        exact ⟨by assumption, h1⟩
      · cases h
    · rintro ⟨h2, h3⟩
      rw [getAny_iff.2 h3] at hg
      simp only [Option.some.injEq, Prod.mk.injEq] at hg
      obtain ⟨rfl, rfl⟩ := hg
      rw [if_pos h2]
theorem getNum_num {n : Nat} (h : n < 2 ^ 64) (t : List UInt8) : getNum (num n ++ t) = some (n, t) := getNum_iff.2 ⟨h, rfl⟩
theorem num_split {n m : Nat} {s t : List UInt8} (h : num n ++ s = num m ++ t) : n = m ∧ s = t := by
  have h1 := getAny_num n s
  rw [h, getAny_num m t] at h1
  simp only [Option.some.injEq, Prod.mk.injEq] at h1
  exact ⟨h1.1.symm, h1.2.symm⟩

/-- A string with its length ahead. -/
def strB (s : List UInt8) : List UInt8 := num s.length ++ s
def getStr (xs : List UInt8) : Option (List UInt8 × List UInt8) :=
  match getNum xs with
  | none => none
  | some (n, t) => if n ≤ t.length then some (t.take n, t.drop n) else none
theorem getStr_iff {xs s t : List UInt8} : getStr xs = some (s, t) ↔ s.length < 2 ^ 64 ∧ xs = strB s ++ t := by
  unfold getStr strB
  cases hg : getNum xs with
  | none =>
    simp only []
    constructor
    · intro h; cases h
    · rintro ⟨h1, h⟩
      rw [List.append_assoc] at h
      rw [getNum_iff.2 ⟨h1, h⟩] at hg; cases hg
  | some p =>
    obtain ⟨m, u⟩ := p
    obtain ⟨h1, h2⟩ := getNum_iff.1 hg
    simp only []
    constructor
    · intro h
      split at h
      · next hm =>
        simp only [Option.some.injEq, Prod.mk.injEq] at h
        obtain ⟨rfl, rfl⟩ := h
        rw [List.length_take, Nat.min_eq_left hm]
        exact ⟨h1, by rw [List.append_assoc, List.take_append_drop]; exact h2⟩
      · cases h
    · rintro ⟨h3, h4⟩
      rw [List.append_assoc] at h4
      rw [getNum_iff.2 ⟨h3, h4⟩] at hg
      simp only [Option.some.injEq, Prod.mk.injEq] at hg
      obtain ⟨rfl, rfl⟩ := hg
      rw [if_pos (by simp)]
      simp
theorem getStr_str {s : List UInt8} (h : s.length < 2 ^ 64) (t : List UInt8) : getStr (strB s ++ t) = some (s, t) := getStr_iff.2 ⟨h, rfl⟩

/-- A number in four bytes, the least first. -/
def fixed (n : Nat) : List UInt8 := [byt (n % 256), byt (n / 256 % 256), byt (n / 65536 % 256), byt (n / 16777216 % 256)]
theorem fixed_len (n : Nat) : (fixed n).length = 4 := rfl
def fix4 (a b c d : UInt8) : Nat := a.toNat + 256 * b.toNat + 65536 * c.toNat + 16777216 * d.toNat
theorem fix4_lt (a b c d : UInt8) : fix4 a b c d < 2 ^ 32 := by
  have := u8lt a; have := u8lt b; have := u8lt c; have := u8lt d
  unfold fix4; omega
theorem fix4_fixed {n : Nat} (h : n < 2 ^ 32) : fix4 (byt (n % 256)) (byt (n / 256 % 256)) (byt (n / 65536 % 256)) (byt (n / 16777216 % 256)) = n := by
  unfold fix4
  rw [byt_nat (by omega), byt_nat (by omega), byt_nat (by omega), byt_nat (by omega)]
  omega
theorem fixed_fix4 (a b c d : UInt8) : fixed (fix4 a b c d) = [a, b, c, d] := by
  have ha := u8lt a; have hb := u8lt b; have hc := u8lt c; have hd := u8lt d
  unfold fixed fix4
  rw [show (a.toNat + 256 * b.toNat + 65536 * c.toNat + 16777216 * d.toNat) % 256 = a.toNat by omega,
    show (a.toNat + 256 * b.toNat + 65536 * c.toNat + 16777216 * d.toNat) / 256 % 256 = b.toNat by omega,
    show (a.toNat + 256 * b.toNat + 65536 * c.toNat + 16777216 * d.toNat) / 65536 % 256 = c.toNat by omega,
    show (a.toNat + 256 * b.toNat + 65536 * c.toNat + 16777216 * d.toNat) / 16777216 % 256 = d.toNat by omega]
  simp only [byt_self]
/-- The four bytes at a place, as a number. -/
def fixAt (xs : List UInt8) (i : Nat) : Nat := fix4 (xs.getD i 0) (xs.getD (i + 1) 0) (xs.getD (i + 2) 0) (xs.getD (i + 3) 0)
theorem fixAt_lt (xs : List UInt8) (i : Nat) : fixAt xs i < 2 ^ 32 := fix4_lt _ _ _ _
theorem fixAt_fixed {n : Nat} (h : n < 2 ^ 32) (xs t : List UInt8) : fixAt (xs ++ (fixed n ++ t)) xs.length = n := by
  unfold fixAt fixed
  simp only [List.getD_eq_getElem?_getD, List.getElem?_append_right (Nat.le_refl _), List.getElem?_append_right (show xs.length ≤ xs.length + 1 by omega), List.getElem?_append_right (show xs.length ≤ xs.length + 2 by omega), List.getElem?_append_right (show xs.length ≤ xs.length + 3 by omega), Nat.sub_self, Nat.add_sub_cancel_left]
  exact fix4_fixed h

/-- How many bytes two strings have in common at their beginning. -/
def shared : List UInt8 → List UInt8 → Nat
  | x :: s, y :: t => if x = y then shared s t + 1 else 0
  | _, _ => 0
theorem shared_le : ∀ (s t : List UInt8), shared s t ≤ s.length ∧ shared s t ≤ t.length
  | [], _ => by simp [shared]
  | _ :: _, [] => by simp [shared]
  | x :: s, y :: t => by
    have := shared_le s t
    unfold shared
    split <;> simp <;> omega
theorem shared_take : ∀ (s t : List UInt8), s.take (shared s t) = t.take (shared s t)
  | [], _ => by simp [shared]
  | _ :: _, [] => by simp [shared]
  | x :: s, y :: t => by
    unfold shared
    split
    · next h => rw [List.take_succ_cons, List.take_succ_cons, shared_take s t, h]
    · rfl
/-- The loop's own words: one more in common. -/
theorem shared_iff : ∀ (s t : List UInt8) (n : Nat), n ≤ s.length → n ≤ t.length → s.take n = t.take n → (n = s.length ∨ n = t.length ∨ s[n]? ≠ t[n]?) → shared s t = n
  | [], t, n, h1, _, _, _ => by simp at h1; subst h1; simp [shared]
  | x :: s, [], n, _, h2, _, _ => by simp at h2; subst h2; simp [shared]
  | x :: s, y :: t, 0, _, _, _, h4 => by
    unfold shared
    rw [if_neg]
    rintro rfl
    simp at h4
  | x :: s, y :: t, n + 1, h1, h2, h3, h4 => by
    rw [List.take_succ_cons, List.take_succ_cons] at h3
    obtain ⟨rfl, h5⟩ := List.cons.inj h3
    unfold shared
    rw [if_pos rfl, shared_iff s t n (by simpa using h1) (by simpa using h2) h5 (by simpa using h4)]
end Go.Proofs.YtgiigiegjaagbaaDoor

/-
  The checksum of a list of bytes (mathematics).
-/
namespace Go.Proofs.YtgiigiegjaagbaaDoor
set_option linter.unusedVariables false
set_option linter.unusedSimpArgs false

/-- One bit. -/
def sh (c : BitVec 32) : BitVec 32 := if c.toNat % 2 = 1 then (c >>> 1) ^^^ 3988292384#32 else c >>> 1
def shN : Nat → BitVec 32 → BitVec 32
  | 0, c => c
  | k + 1, c => sh (shN k c)
/-- One byte. -/
def crcB (c : BitVec 32) (x : UInt8) : BitVec 32 := shN 8 (c ^^^ BitVec.ofNat 32 x.toNat)
def crcTo (c : BitVec 32) (xs : List UInt8) : BitVec 32 := xs.foldl crcB c
def crc (xs : List UInt8) : BitVec 32 := crcTo 4294967295#32 xs ^^^ 4294967295#32
theorem crcTo_snoc (c : BitVec 32) (xs : List UInt8) (x : UInt8) : crcTo c (xs ++ [x]) = crcB (crcTo c xs) x := by simp [crcTo]
theorem crcTo_append (c : BitVec 32) (xs ys : List UInt8) : crcTo c (xs ++ ys) = crcTo (crcTo c xs) ys := by simp [crcTo]

theorem bit0 (c : BitVec 32) : c.getLsbD 0 = decide (c.toNat % 2 = 1) := by
  unfold BitVec.getLsbD
  exact Nat.testBit_zero _
theorem sh_inj {a b : BitVec 32} (h : sh a = sh b) : a = b := by
  have top : ∀ c : BitVec 32, (sh c).getLsbD 31 = c.getLsbD 0 := by
    intro c
    unfold sh
    by_cases h : c.toNat % 2 = 1
    · rw [if_pos h, BitVec.getLsbD_xor, BitVec.getLsbD_ushiftRight, BitVec.getLsbD_of_ge c (1 + 31) (by omega)]
      have : c.getLsbD 0 = true := by rw [bit0]; simp [h]
      rw [this]; decide
    · rw [if_neg h, BitVec.getLsbD_ushiftRight, BitVec.getLsbD_of_ge c (1 + 31) (by omega)]
      have : c.getLsbD 0 = false := by rw [bit0]; simp [h]
      rw [this]
  have low : a.getLsbD 0 = b.getLsbD 0 := by rw [← top a, ← top b, h]
  have par : (a.toNat % 2 = 1) ↔ (b.toNat % 2 = 1) := by
    rw [bit0, bit0] at low
    exact decide_eq_decide.1 low
  have hs : a >>> 1 = b >>> 1 := by
    unfold sh at h
    by_cases q : a.toNat % 2 = 1
    · rw [if_pos q, if_pos (par.1 q)] at h
      exact (BitVec.xor_left_inj _).1 h
    · rw [if_neg q, if_neg (fun r => q (par.2 r))] at h
      exact h
  apply BitVec.eq_of_getLsbD_eq
  intro i hi
  cases i with
  | zero => exact low
  | succ i =>
    have := congrArg (fun x => x.getLsbD i) hs
    simp only [BitVec.getLsbD_ushiftRight] at this
    rw [Nat.add_comm]; exact this
theorem shN_inj : ∀ (k : Nat) {a b : BitVec 32}, shN k a = shN k b → a = b
  | 0, _, _, h => h
  | k + 1, _, _, h => shN_inj k (sh_inj h)
theorem crcB_inj {a b : BitVec 32} {x : UInt8} (h : crcB a x = crcB b x) : a = b := (BitVec.xor_left_inj _).1 (shN_inj 8 h)
theorem crcTo_inj : ∀ (xs : List UInt8) {a b : BitVec 32}, crcTo a xs = crcTo b xs → a = b
  | [], _, _, h => h
  | x :: xs, a, b, h => crcB_inj (crcTo_inj xs (show crcTo (crcB a x) xs = crcTo (crcB b x) xs from h))
/-- One byte changed: another checksum. -/
theorem crc_one {xs ys : List UInt8} {a b : UInt8} (hab : ¬ a = b) : ¬ crc (xs ++ a :: ys) = crc (xs ++ b :: ys) := by
  intro h
  have h1 := (BitVec.xor_left_inj _).1 h
  rw [crcTo_append, crcTo_append] at h1
  have h2 : crcB (crcTo 4294967295#32 xs) a = crcB (crcTo 4294967295#32 xs) b := crcTo_inj ys h1
  have h3 := (BitVec.xor_right_inj _).1 (shN_inj 8 h2)
  apply hab
  apply UInt8.toNat_inj.1
  have h4 := congrArg BitVec.toNat h3
  have ha := u8lt a
  have hb := u8lt b
  rw [BitVec.toNat_ofNat, BitVec.toNat_ofNat, Nat.mod_eq_of_lt (by omega), Nat.mod_eq_of_lt (by omega)] at h4
  exact h4
end Go.Proofs.YtgiigiegjaagbaaDoor

/-
  Bytes in memory.
-/
namespace Go.Proofs.YtgiigiegjaagbaaDoor
open Go.ChangeShapes Go.WideShapes Go.ChangeAt Go.RowKit Go.Deep
set_option linter.unusedVariables false
set_option linter.unusedSimpArgs false
set_option maxRecDepth 100000

abbrev ub (x : UInt8) : Value := .int .u8 (x.toNat : Int)
/-- The bytes lie there. -/
def BysAt (w : World) (b off : Nat) (xs : List UInt8) : Prop := ∀ i x, xs[i]? = some x → w.cell? ⟨b, off + i, none⟩ = some (ub x)
theorem BysAt.below {B : Nat} {w w' : World} {b off : Nat} {xs : List UInt8} (h : BysAt w b off xs) (hb : Below B w w') (hlt : b < B) : BysAt w' b off xs := by
  intro i x hx
  rw [hb.cell (p := ⟨b, off + i, none⟩) hlt]
  exact h i x hx

theorem xor32 (s t : BitVec 32) {x : Int} (hx : x = (t.toNat : Int)) : bits .xor .u32 (s.toNat : Int) x = ((s ^^^ t).toNat : Int) := by
  subst hx
  have h1 : BitVec.ofInt 32 (s.toNat : Int) = s := by simp
  have h2 : BitVec.ofInt 32 (t.toNat : Int) = t := by simp
  show IntKind.wrap .u32 ((BitVec.ofInt 32 (s.toNat : Int) ^^^ BitVec.ofInt 32 (t.toNat : Int)).toNat : Int) = _
  rw [h1, h2]
  have := (s ^^^ t).isLt
  simp only [IntKind.wrap, IntKind.bits, IntKind.signed, Bool.false_and, Bool.false_eq_true, if_false]
  omega
end Go.Proofs.YtgiigiegjaagbaaDoor

/-
  Bytes of the call's own; append; l2Num, l2Cat, l2Str, l2Fixed, l2Shared.
-/
namespace Go.Proofs.YtgiigiegjaagbaaDoor
open Go.ChangeShapes Go.WideShapes Go.ChangeAt Go.RowKit Go.Deep
set_option linter.unusedVariables false
set_option linter.unusedSimpArgs false
set_option maxRecDepth 100000

/-- A row of bytes of the call's own. -/
def OwnY (w : World) (base g cp : Nat) (xs : List UInt8) : Prop := w.ownsRow base 5 1 (.slice (some ⟨g, 0, none⟩) xs.length cp) xs.length (xs.map ub)
theorem OwnY.lt {w : World} {base g cp : Nat} {xs : List UInt8} (h : OwnY w base g cp xs) : base ≤ g ∧ g < w.heap.size := World.ownsRow.lt h g rfl
theorem OwnY.chg {S : Nat → Prop} {w w' : World} {base g cp : Nat} {xs : List UInt8} (h : OwnY w base g cp xs) (hc : Chg S w w') (hn : ¬ S g) : OwnY w' base g cp xs := own_chg h hc (fun k q => by simp [Value.ownBlock] at q; subst q; exact hn)
theorem OwnY.below {w w' : World} {base g cp : Nat} {xs : List UInt8} (h : OwnY w base g cp xs) (hb : Below w.heap.size w w') : OwnY w' base g cp xs := h.chg (Chg.of_below hb) (S := fun _ => False) (fun q => q)
theorem OwnY.at {w : World} {base g cp : Nat} {xs : List UInt8} (h : OwnY w base g cp xs) : BysAt w g 0 xs := by
  intro k x hx
  have hk := (List.getElem?_eq_some_iff.1 hx).1
  rw [Nat.zero_add, World.ownsRow.cellAt h k (by omega), List.getElem?_map, hx]; rfl
theorem OwnY.caps {w : World} {base g cp : Nat} {xs : List UInt8} (h : OwnY w base g cp xs) : xs.length ≤ cp ∧ cp ≤ maxLen := by
  rcases h.2 with ⟨h0, _⟩ | ⟨g', cap', cur, hv, _, _, hn, hcap, _, _⟩
  · cases h0
  · simp only [Value.slice.injEq, Option.some.injEq, Addr.mk.injEq, and_true, true_and] at hv
    obtain ⟨rfl, rfl⟩ := hv
    exact ⟨hn, hcap⟩
theorem OwnY.mono {w : World} {base base' g cp : Nat} {xs : List UInt8} (h : OwnY w base g cp xs) (hb : base' ≤ base) : OwnY w base' g cp xs := by
  refine ⟨h.1, ?_⟩
  rcases h.2 with hn | ⟨g', cap', cur, hv, h1, rest⟩
  · exact .inl hn
  · exact .inr ⟨g', cap', cur, hv, Nat.le_trans hb h1, rest⟩
theorem ub_one (xs : List UInt8) : ∀ u ∈ xs.map ub, u.oneCell' = true := by
  intro u hu
  obtain ⟨r, _, rfl⟩ := List.mem_map.1 hu
  rfl
theorem Tryd.infoByte : (Tryd.prog.info? 5).map (fun i => (i.zero, i.size, i.bytes)) = some (some (.int .u8 0), 1, 1) := by kernel_rfl
/-- Bytes appended to a row of the call's own. -/
theorem wpList_append_bys {ops : Array Oper} {rest : List Oper} {o : Oper} {a : Act} {Q : Exit → Act → World → Prop} (w : World) (hgd : o.guard = none) (s x : Operand)
    (ho : o.op = .call { callee := .builtin .append, args := #[s, x], argTypes := #[22, 22] })
    (base g cp n b off m cx : Nat) (l k : List UInt8) (hs : a.eval s = .slice (some ⟨g, 0, none⟩) n cp) (hx : a.eval x = .slice (some ⟨b, off, none⟩) m cx) (hn : n = l.length) (hm : m = k.length) (hO : OwnY w base g cp l)
    (hc : BysAt w b off k) (hlen : l.length + k.length ≤ 2 ^ 30) (hbase : base ≤ w.heap.size)
    (h : ∀ g' cp' w', OwnY w' base g' cp' (l ++ k) → w.grownBy w' (some g) → (g' = g ∨ g' = w.heap.size) → wpList Tryd.prog ops Q rest (a.put o.dst (.slice (some ⟨g', 0, none⟩) (n + m) cp')) w') : wpList Tryd.prog ops Q (o :: rest) a w := by
  subst hn hm
  obtain ⟨i, hi, hz0, hz1, hz2⟩ := info_parts Tryd.infoByte
  refine wpList_append_own_at w hgd s x 22 ho base 5 i _ 1 1 Tryd.underlying22 hi hz0 hz1 hz2 rfl (by decide) (.slice (some ⟨g, 0, none⟩) l.length cp) l.length (l.map ub) hs hO ⟨b, off, none⟩ k.length cx (k.map ub) hx (by simp) ?_ (ub_one k) ?_ ?_ hbase ?_
  · intro j u hu
    rw [List.getElem?_map] at hu
    cases hk : k[j]? with
    | none => rw [hk] at hu; cases hu
    | some r =>
      rw [hk] at hu
      simp at hu
      rw [Addr.add_mid, hc j r hk, ← hu]
  · unfold maxLen; omega
  · omega
  · intro v' w' hO' hgr hnil hat
    rcases hO'.2 with ⟨h0, _⟩ | ⟨g', cap', cur, hv, _, _, hn, hcap, _, _⟩
    · have := (hnil.1 h0).1
      cases this
    · subst hv
      refine h g' cap' w' ?_ hgr ?_
      · unfold OwnY
        rw [List.length_append, List.map_append]
        exact hO'
      · simp [Value.ownBlock] at hat
        exact hat
theorem ownY_new (w : World) {base : Nat} (hb : base ≤ w.heap.size) : OwnY (w.alloc (Obj.cells #[] 5)) base w.heap.size 0 [] :=
  World.ownsRow_made w #[] 0 hb (Nat.zero_le _) (by simp)
theorem ownY_one (w : World) {base : Nat} (hb : base ≤ w.heap.size) (x : UInt8) {v : Int} (hv : v = (x.toNat : Int)) : OwnY (w.alloc (Obj.cells #[.int .u8 v] 5)) base w.heap.size 1 [x] := by
  subst hv
  exact World.ownsRow_lit w #[ub x] 1 hb (by decide) rfl

end Go.Proofs.YtgiigiegjaagbaaDoor

/-
  (impl.seqNode).prefix, impl.PrefixOf.
-/
namespace Go.Proofs.YtgiigiegjaagbaaDoor
open Go.ChangeShapes Go.WideShapes Go.ChangeAt Go.RowKit Go.Deep
set_option linter.unusedVariables false
set_option linter.unusedSimpArgs false
set_option maxRecDepth 100000

theorem pb_assert (b : UInt8) (w : World) : (Instr.typeAssert (byteV b) 76 78 true).run Tryd.prog w = .ok (.tuple #[.agg #[.int .u8 (b.toNat : Int)], .bool true]) w := by kernel_rfl
theorem pb_other {T : Nat} (hT : T = 108 ∨ T = 110 ∨ T = 47) (cs : Array Value) (w : World) : (Instr.typeAssert (.iface T (.agg cs)) 76 78 true).run Tryd.prog w = .ok (.tuple #[.agg #[.int .u8 0], .bool false]) w := by
  rcases hT with rfl | rfl | rfl <;> kernel_rfl
theorem conv_ownY {w : World} {base g cap : Nat} {zs : List UInt8} (h : OwnY w base g cap zs) : (convert 22 9 (.slice (some ⟨g, 0, none⟩) zs.length cap)).run Tryd.prog w = .ok (.string ⟨zs.toArray⟩) w := by
  refine run_convert_bytes_back (P := Tryd.prog) w 22 9 5 ⟨g, 0, none⟩ cap zs Tryd.underlying22 Tryd.underlying5 Tryd.underlying9 ?_
  intro i hi
  have := World.ownsRow.cellAt h i (by omega)
  rw [Addr.add_mid, Nat.zero_add, this, List.getElem?_map, List.getElem?_eq_getElem hi]
  rfl
/-- A node that is a byte, and one that is not. -/
theorem NodeOk.kind {w : World} {lo : Nat → Prop} {t : Pat} {v : Value} (h : NodeOk w lo t v) : (∃ b, t = .byte b ∧ v = byteV b) ∨ (¬ isByte t ∧ ∃ T cs, v = .iface T (.agg cs) ∧ (T = 108 ∨ T = 110 ∨ T = 47)) := by
  obtain ⟨n, hn⟩ := h
  cases n with
  | zero => exact hn.elim
  | succ n =>
    cases t with
    | byte b => exact .inl ⟨b, rfl, hn⟩
    | cls f => exact .inr ⟨fun h => h, _, _, hn, .inl rfl⟩
    | rep t o r => obtain ⟨u, h1, _⟩ := hn; exact .inr ⟨fun h => h, _, _, h1, .inr (.inl rfl)⟩
    | alt os => obtain ⟨u, h1, _⟩ := hn; exact .inr ⟨fun h => h, _, _, h1, .inr (.inr rfl)⟩
/-- A seq's nodes, one by one. -/
theorem SeqAt.nth {w : World} {R : Nat → Prop} {ts : List Pat} {u : Value} (h : SeqAt w R ts u) : ∃ a cp, u = .slice a ts.length cp ∧ ∀ k t, ts[k]? = some t → ∃ gs v, a = some ⟨gs, 0, none⟩ ∧ gs < w.heap.size ∧ w.cell? ⟨gs, k, none⟩ = some v ∧ NodeOk w R t v := by
  obtain ⟨n, h | ⟨g, cp, us, h1, h2, h3, h4⟩⟩ := h
  · obtain ⟨rfl, rfl⟩ := h
    exact ⟨none, 0, rfl, fun k t ht => by simp at ht⟩
  · refine ⟨_, cp, h1, fun k t ht => ?_⟩
    have hk := (List.getElem?_eq_some_iff.1 ht).1
    obtain ⟨v, hv⟩ : ∃ v, us[k]? = some v := ⟨_, List.getElem?_eq_getElem (by omega)⟩
    exact ⟨g, v, rfl, h3.lt, h3.val k v hv, n, h4 k v t hv ht⟩
/-- The state of the loop of prefix. -/
structure PxJ (w : World) (ts : List Pat) (k g cp : Nat) (xs : List UInt8) (wr : World) : Prop where
  len : xs.length = k
  pre : prefM ts = (xs ++ (prefM (ts.drop k)).1, (prefM (ts.drop k)).2)
  own : OwnY wr (w.heap.size + 2) g cp xs
  res : BoxAt wr w.heap.size 27 2 (w.heap.size + 1) [.string ⟨#[]⟩, .bool false]
  below : Below w.heap.size w wr
def set2 (w : World) (g : Nat) (a b : Value) : World := (w.setCell ⟨g, 0, none⟩ a).setCell ⟨g, 1, none⟩ b
theorem set2_cells {w : World} {base t g : Nat} {x y : Value} (h : BoxAt w base t 2 g [x, y]) (a b : Value) : BoxAt (set2 w g a b) base t 2 g [a, b] := ((h.set 0 a).set 1 b)

set_option maxHeartbeats 8000000 in
theorem prefix_core {w : World} {R : Nat → Prop} {ts : List Pat} {u : Value} (h : SeqAt w R ts u) (hl : ts.length ≤ 1000) : Calls Tryd.prog 21 #[.agg #[u]] w fun e w' => e = .returned (.agg #[.string ⟨(prefM ts).1.toArray⟩, .bool (prefM ts).2]) ∧ Below w.heap.size w w' := by
  obtain ⟨a, cp, rfl, hn⟩ := h.nth
  have HN : Hid (∀ k t, ts[k]? = some t → ∃ gs v, a = some ⟨gs, 0, none⟩ ∧ gs < w.heap.size ∧ w.cell? ⟨gs, k, none⟩ = some v ∧ NodeOk w R t v) := hn
  clear h hn
  obtain ⟨n, hnn⟩ : ∃ n, n = ts.length := ⟨_, rfl⟩
  have HL : Hid (n = ts.length) := hnn
  rw [← hnn] at hl ⊢
  clear hnn
  obtain ⟨W0, hW0⟩ : ∃ W0 : World, W0 = ((w.alloc (Obj.cells #[.slice a n cp] 52)).alloc (Obj.cells #[.string ⟨#[]⟩, .bool false] 27)).alloc (Obj.cells #[] 5) := ⟨_, rfl⟩
  have HW0 : Hid (PxJ w ts 0 (w.heap.size + 2) 0 [] W0 ∧ W0.cell? ⟨w.heap.size, 0, none⟩ = some (.slice a n cp)) := by
    obtain ⟨V, hV⟩ : ∃ V : World, V = (w.alloc (Obj.cells #[.slice a n cp] 52)).alloc (Obj.cells #[.string ⟨#[]⟩, .bool false] 27) := ⟨_, rfl⟩
    have hz : V.heap.size = w.heap.size + 2 := by rw [hV]; simp
    have hbV : Below w.heap.size w V := by rw [hV]; exact ((Below.refl _ _).alloc (Nat.le_refl _) _).alloc (by simp) _
    have b1 : BoxAt V w.heap.size 52 1 w.heap.size [.slice a n cp] := by rw [hV]; exact BoxAt.ofHeap (vs := #[.slice a n cp]) (heap_alloc2_old w _ _) (Nat.le_refl _) rfl
    have b2 : BoxAt V w.heap.size 27 2 (w.heap.size + 1) [.string ⟨#[]⟩, .bool false] := by rw [hV]; exact BoxAt.ofHeap (vs := #[.string ⟨#[]⟩, .bool false]) (heap_alloc2_new w _ _) (by omega) rfl
    have hb0 : Below V.heap.size V W0 := by rw [hW0, ← hV]; exact (Below.refl _ _).alloc (Nat.le_refl _) _
    refine ⟨⟨rfl, by simp, ?_, b2.below hb0, hbV.trans (hb0.mono (by omega))⟩, (b1.below hb0).cell (j := 0) rfl⟩
    rw [hW0, ← hV, ← hz]
    exact ownY_new V (Nat.le_refl _)
  go_enter Tryd.func21, Tryd.ntmps21
  go_upto_region 2 with fail
  rw [← hW0]
  clear hW0
  have c0 := HW0.out.2
  go_wp2_with fail
  clear c0
  go_loopw [3, 12] (fun o i wr => ∃ (k g cq : Nat) (xs : List UInt8), k ≤ n ∧ i = .int .i64 (k : Int) ∧ o = .slice (some ⟨g, 0, none⟩) k cq ∧ PxJ w ts k g cq xs wr) (fun _ i _ => n - (intOf i).toNat)
  case atStart => exact ⟨0, _, 0, [], Nat.zero_le _, rfl, rfl, HW0.out.1⟩
  case round =>
    obtain ⟨k, g, cq, xs, hk, rfl, rfl, hJ⟩ := hrel
    have HJ : Hid (PxJ w ts k g cq xs wr) := hJ
    have hgl := hJ.own.lt
    have hxl := hJ.len
    have hsz := hJ.below.size
    have r0 := hJ.res.cell (j := 0) rfl
    have r1 := hJ.res.cell (j := 1) rfl
    have f0 := hJ.res.frozen 0
    have f1 := hJ.res.frozen 1
    clear hJ HW0
    by_cases hlt : k < n
    · have zk : (k : Int) < (n : Int) := by omega
      obtain ⟨t, ht⟩ : ∃ t, ts[k]? = some t := ⟨_, List.getElem?_eq_getElem (by have := HL.out; omega)⟩
      obtain ⟨gs, v, rfl, hgs, hv, hN⟩ := HN.out k t ht
      have hv2 : wr.cell? ⟨gs, k, none⟩ = some v := by
        rw [(Chg.of_below HJ.out.below (S := fun _ => False)).cell (p := ⟨gs, k, none⟩) hgs (fun q => q)]; exact hv
      have hdrop : ts.drop k = t :: ts.drop (k + 1) := by
        rw [List.drop_eq_getElem_cons (by have := HL.out; omega)]
        congr 1
        exact Option.some.inj ((List.getElem?_eq_getElem (by have := HL.out; omega)).symm.trans ht)
      have HD : Hid (ts.drop k = t :: ts.drop (k + 1)) := hdrop
      clear hv hdrop ht
      rcases hN.kind with ⟨b, rfl, rfl⟩ | ⟨hnb, T, cs, rfl, hT⟩
      · have ha := pb_assert b
        clear hN
        have HP : Hid (prefM ts = ((xs ++ [b]) ++ (prefM (ts.drop (k + 1))).1, (prefM (ts.drop (k + 1))).2)) := by
          show prefM ts = _
          rw [HJ.out.pre, HD.out]; simp [prefM]
        obtain ⟨W5, hW5⟩ : ∃ W5 : World, W5 = wr.alloc (Obj.cells #[.int .u8 (b.toNat : Int)] 78) := ⟨_, rfl⟩
        have hb5 : Below wr.heap.size wr W5 := by rw [hW5]; exact (Below.refl _ _).alloc (Nat.le_refl _) _
        have hz5 : W5.heap.size = wr.heap.size + 1 := by rw [hW5]; simp
        have HJ5 : Hid (PxJ w ts k g cq xs W5) := ⟨HJ.out.len, HJ.out.pre, HJ.out.own.below hb5, HJ.out.res.below hb5, HJ.out.below.trans (hb5.mono hsz)⟩
        have b5 : W5.cell? ⟨wr.heap.size, 0, none⟩ = some (.int .u8 (b.toNat : Int)) := by
          rw [hW5]; exact (boxAt_new wr (base := 0) (t := 78) (sz := 1) #[.int .u8 (b.toNat : Int)] (Nat.zero_le _) rfl).cell (j := 0) rfl
        go_upto_region 6 with fail
        rw [← hW5]
        clear hW5 hv2 r0 r1 f0 f1 ha HJ
        obtain ⟨W6, hW6⟩ : ∃ W6 : World, W6 = W5.alloc (Obj.cells #[.int .u8 (b.toNat : Int)] 5) := ⟨_, rfl⟩
        have hb6 : Below W5.heap.size W5 W6 := by rw [hW6]; exact (Below.refl _ _).alloc (Nat.le_refl _) _
        have hz6 : W6.heap.size = W5.heap.size + 1 := by rw [hW6]; simp
        have HJ6 : Hid (PxJ w ts k g cq xs W6 ∧ BysAt W6 (wr.heap.size + 1) 0 [b]) := by
          refine ⟨⟨HJ5.out.len, HJ5.out.pre, HJ5.out.own.below hb6, HJ5.out.res.below hb6, HJ5.out.below.trans (hb6.mono (by omega))⟩, ?_⟩
          rw [hW6, ← hz5]
          exact (ownY_one W5 (Nat.le_refl _) b rfl).at
        go_wp2_with (at_builtin; rw [← hW6]; refine wpList_append_bys _ rfl _ _ rfl (w.heap.size + 2) g cq k (wr.heap.size + 1) 0 1 1 xs [b] rfl rfl ?hn rfl ?hO ?hc ?hl ?hb ?_)
        case hn => exact hxl.symm
        case hO => exact HJ6.out.1.own
        case hc => exact HJ6.out.2
        case hl => simp; omega
        case hb => omega
        intro g' cp' w' hO' hgr hat
        rw [← hW6] at hgr
        have HJ7 : Hid (PxJ w ts (k + 1) g' cp' (xs ++ [b]) w') := by
          have hC : Chg (fun j => j = g) W6 w' := Chg.of_grown hgr (fun j hj => by cases hj; rfl)
          refine ⟨by simp [hxl], HP.out, hO', HJ6.out.1.res.chg hC (by omega), ?_⟩
          exact Chg.below HJ6.out.1.below hC HJ6.out.1.below.size (fun j q => by omega)
        clear hO' hgr hat hW6 b5
        go_wp2_with fail
        go_roundw
        case rel => exact ⟨k + 1, g', cp', xs ++ [b], by omega, by go_num, rfl, HJ7.out⟩
        case measure => simp [intOf]; omega
      · have ha := pb_other hT cs
        have HP : Hid (prefM ts = (xs, false)) := by
          show prefM ts = _
          rw [HJ.out.pre, HD.out, prefM_not hnb]; simp
        obtain ⟨W5, hW5⟩ : ∃ W5 : World, W5 = wr.alloc (Obj.cells #[.int .u8 0] 78) := ⟨_, rfl⟩
        have hb5 : Below wr.heap.size wr W5 := by rw [hW5]; exact (Below.refl _ _).alloc (Nat.le_refl _) _
        have HJ5 : Hid (PxJ w ts k g cq xs W5) := ⟨HJ.out.len, HJ.out.pre, HJ.out.own.below hb5, HJ.out.res.below hb5, HJ.out.below.trans (hb5.mono hsz)⟩
        go_upto_region 6 with fail
        rw [← hW5]
        clear hW5 hv2 r0 r1 f0 f1 ha HJ hN hnb hT
        have hcv := conv_ownY HJ5.out.own
        rw [hxl] at hcv
        have r0 := HJ5.out.res.cell (j := 0) rfl
        have r1 := HJ5.out.res.cell (j := 1) rfl
        have f0 := HJ5.out.res.frozen 0
        have f1 := HJ5.out.res.frozen 1
        obtain ⟨W6, hW6⟩ : ∃ W6 : World, W6 = set2 W5 (w.heap.size + 1) (.string ⟨xs.toArray⟩) (.bool false) := ⟨_, rfl⟩
        have HW6 : Hid (BoxAt W6 w.heap.size 27 2 (w.heap.size + 1) [.string ⟨xs.toArray⟩, .bool false] ∧ Below w.heap.size w W6) := by
          rw [hW6]; exact ⟨set2_cells HJ5.out.res _ _, below_set (below_set HJ5.out.below (by omega) 0 _) (by omega) 1 _⟩
        have p0 := HW6.out.1.cell (j := 0) rfl
        have p1 := HW6.out.1.cell (j := 1) rfl
        unfold set2 at hW6
        go_wp2_with fail
        rw [← hW6]
        rw [HP.out]
        refine bodyPost_ret (v := .agg #[.string ⟨xs.toArray⟩, .bool false]) (by simp [results, Tryd.results21, go_sem, p0, p1]) rfl ⟨rfl, HW6.out.2⟩
    · have zk : ¬ (k : Int) < (n : Int) := by omega
      have HP : Hid (prefM ts = (xs, true)) := by
        show prefM ts = _
        rw [HJ.out.pre, List.drop_eq_nil_of_le (by have := HL.out; omega)]; simp [prefM]
      have hcv := conv_ownY HJ.out.own
      rw [hxl] at hcv
      obtain ⟨W6, hW6⟩ : ∃ W6 : World, W6 = set2 wr (w.heap.size + 1) (.string ⟨xs.toArray⟩) (.bool true) := ⟨_, rfl⟩
      have HW6 : Hid (BoxAt W6 w.heap.size 27 2 (w.heap.size + 1) [.string ⟨xs.toArray⟩, .bool true] ∧ Below w.heap.size w W6) := by
        rw [hW6]; exact ⟨set2_cells HJ.out.res _ _, below_set (below_set HJ.out.below (by omega) 0 _) (by omega) 1 _⟩
      have p0 := HW6.out.1.cell (j := 0) rfl
      have p1 := HW6.out.1.cell (j := 1) rfl
      unfold set2 at hW6
      go_wp2_with fail
      rw [← hW6]
      rw [HP.out]
      refine bodyPost_ret (v := .agg #[.string ⟨xs.toArray⟩, .bool true]) (by simp [results, Tryd.results21, go_sem, p0, p1]) rfl ⟨rfl, HW6.out.2⟩

theorem AltAt.nth {w : World} {R : Nat → Prop} {os : List (List Pat)} {u : Value} (h : AltAt w R os u) : ∃ g cp, u = .slice (some ⟨g, 0, none⟩) os.length cp ∧ g < w.heap.size ∧ ∀ k ts, os[k]? = some ts → ∃ v, w.cell? ⟨g, k, none⟩ = some v ∧ SeqAt w R ts v := by
  obtain ⟨n, g, cp, us, h1, h2, h3, h4⟩ := h
  refine ⟨g, cp, h1, h3.lt, fun k ts ht => ?_⟩
  have hk := (List.getElem?_eq_some_iff.1 ht).1
  obtain ⟨v, hv⟩ : ∃ v, us[k]? = some v := ⟨_, List.getElem?_eq_getElem (by omega)⟩
  exact ⟨v, h3.val k v hv, n, h4 k v ts hv ht⟩
theorem pref_is (p : ByteArray) (hp : p.size ≤ maxLen) : (checkM (sb p)).1 = 0 → ∃ os, AltOk (sb p) 0 0 p.size os := by
  intro h
  obtain ⟨e, w', fr, ⟨u, _, _, (⟨_, os, h1, _⟩ | ⟨h1, _⟩)⟩, _⟩ := readPattern_core p default hp []
  · exact ⟨os, h1⟩
  · exact absurd h h1
/-- What PrefixOf of a pattern comes to. -/
def PrefIs (p : ByteArray) (r : List UInt8 × Bool) : Prop := (¬ (checkM (sb p)).1 = 0 → r = ([], false)) ∧ ((checkM (sb p)).1 = 0 → ∀ os, AltOk (sb p) 0 0 p.size os → r = prefOf os)
theorem prefIs_some (p : ByteArray) (hp : p.size ≤ maxLen) : ∃ r, PrefIs p r := by
  by_cases h : (checkM (sb p)).1 = 0
  · obtain ⟨os, ho⟩ := pref_is p hp h
    refine ⟨prefOf os, fun q => absurd h q, fun _ us hu => prefOf_one (by rw [sb_len]; exact ho) (by rw [sb_len]; exact hu)⟩
  · exact ⟨_, fun _ => rfl, fun q => absurd q h⟩
theorem seqG_len {A : List UInt8 → Pat → Prop} (hA : ∀ xs t, A xs t → 0 < xs.length) : ∀ {ts : List Pat} {xs : List UInt8}, SeqG A ts xs → ts.length ≤ xs.length
  | [], _, _ => Nat.zero_le _
  | _ :: ts, _, ⟨ys, zs, h1, ⟨us, ops, a, h2, h3, _⟩, h4⟩ => by
    have := seqG_len hA h4
    have := hA _ _ h3
    rw [h1, h2]
    simp
    omega

set_option maxHeartbeats 8000000 in
theorem implPrefix_core (p : ByteArray) (w : World) (hpm : p.size ≤ maxLen) (r : List UInt8 × Bool) (hr : PrefIs p r) : Calls Tryd.prog 6 #[.string p] w fun e w' => e = .returned (.agg #[.string ⟨r.1.toArray⟩, .bool r.2]) ∧ Below w.heap.size w w' := by
  have HR : Hid (PrefIs p r) := hr
  clear hr
  obtain ⟨W0, hW0⟩ : ∃ W0 : World, W0 = w.alloc (Obj.cells #[.string ⟨#[]⟩, .bool false] 27) := ⟨_, rfl⟩
  have HW0 : Hid (BoxAt W0 w.heap.size 27 2 w.heap.size [.string ⟨#[]⟩, .bool false] ∧ Below w.heap.size w W0) := by
    rw [hW0]; exact ⟨boxAt_new w _ (Nat.le_refl _) rfl, (Below.refl _ _).alloc (Nat.le_refl _) _⟩
  obtain ⟨c, hc⟩ : ∃ c, c = (checkM (sb p)).1 := ⟨_, rfl⟩
  obtain ⟨k, hk⟩ : ∃ k, k = (checkM (sb p)).2 := ⟨_, rfl⟩
  have HC : Hid (c = (checkM (sb p)).1) := hc
  go_enter Tryd.func6, Tryd.ntmps6
  go_upto_region 1 with fail
  rw [← hW0]
  clear hW0
  go_wp2_with fail
  refine (readPattern_core p W0 hpm).mono ?_
  rintro e w1 ⟨u, rfl, hb1, hu⟩
  rw [← hc, ← hk]
  have HU : Hid (((checkM (sb p)).1 = 0 ∧ ∃ os, AltOk (sb p) 0 0 p.size os ∧ AltAt w1 (Bet W0.heap.size w1.heap.size) os u) ∨ (¬ (checkM (sb p)).1 = 0 ∧ u = .slice none 0 0)) := hu
  obtain ⟨ua, un, uc, rfl⟩ : ∃ a n cp, u = .slice a n cp := by
    rcases hu with ⟨_, os, _, hU⟩ | ⟨_, rfl⟩
    · obtain ⟨g, n, cp, rfl⟩ := hU.slice; exact ⟨_, _, _, rfl⟩
    · exact ⟨_, _, _, rfl⟩
  clear hu hc hk
  have h1 := HW0.out.2.size
  have h2 := hb1.size
  obtain ⟨W2, hW2⟩ : ∃ W2 : World, W2 = (w1.alloc (Obj.cells #[.slice ua un uc] 47)).alloc (Obj.cells #[.int .i64 c, .int .i64 (k : Int)] 30) := ⟨_, rfl⟩
  have hb2 : Below w1.heap.size w1 W2 := by rw [hW2]; exact ((Below.refl _ _).alloc (Nat.le_refl _) _).alloc (by simp) _
  have HW2 : Hid (BoxAt W2 w.heap.size 27 2 w.heap.size [.string ⟨#[]⟩, .bool false] ∧ BoxAt W2 w.heap.size 30 2 (w1.heap.size + 1) [.int .i64 c, .int .i64 (k : Int)] ∧ BoxAt W2 w.heap.size 47 1 w1.heap.size [.slice ua un uc] ∧ Below w.heap.size w W2) := by
    refine ⟨(HW0.out.1.below hb1).below hb2, ?_, ?_, (HW0.out.2.trans (hb1.mono h1)).trans (hb2.mono (by omega))⟩
    · rw [hW2]
      exact BoxAt.ofHeap (vs := #[.int .i64 c, .int .i64 (k : Int)]) (heap_alloc2_new w1 _ _) (by omega) rfl
    · rw [hW2]
      exact BoxAt.ofHeap (vs := #[.slice ua un uc]) (heap_alloc2_old w1 _ _) (by omega) rfl
  have HU2 : Hid (((checkM (sb p)).1 = 0 ∧ ∃ os, AltOk (sb p) 0 0 p.size os ∧ AltAt W2 (Bet W0.heap.size w1.heap.size) os (.slice ua un uc)) ∨ (¬ (checkM (sb p)).1 = 0 ∧ Value.slice ua un uc = .slice none 0 0)) := by
    rcases HU.out with ⟨q, os, ho, hU⟩ | q
    · exact .inl ⟨q, os, ho, hU.move (S := fun _ => False) (Chg.of_below hb2) (fun q hq => hq.elim) (fun q _ z => z)⟩
    · exact .inr q
  clear hb1 hb2 HW0 HU
  go_upto_region 2 with fail
  rw [← hW2]
  clear hW2
  have b0 := HW2.out.2.1.cell (j := 0) rfl
  have a0 := HW2.out.2.2.1.cell (j := 0) rfl
  have r0 := HW2.out.1.cell (j := 0) rfl
  have r1 := HW2.out.1.cell (j := 1) rfl
  have f0 := HW2.out.1.frozen 0
  have f1 := HW2.out.1.frozen 1
  have hzero : ∀ (hz : ¬ c = 0 ∨ ¬ (un : Int) = 1), r = ([], false) := fun hz => by
    rcases HU2.out with ⟨q, os, ho, hU⟩ | ⟨q, hn⟩
    · obtain ⟨g, cp, e, _, _⟩ := hU.nth
      simp at e
      have := HR.out.2 q os ho
      rw [this]
      have hc0 : c = 0 := by rw [HC.out]; exact q
      rcases os with _ | ⟨o1, _ | ⟨o2, os⟩⟩
      · rfl
      · exfalso
        simp at e
        rcases hz with hz | hz
        · exact hz hc0
        · exact hz (by rw [e.2.1]; rfl)
      · rfl
    · exact HR.out.1 q
  by_cases hz : ¬ c = 0 ∨ ¬ (un : Int) = 1
  · have e := hzero hz
    subst e
    clear hzero
    obtain ⟨W6, hW6⟩ : ∃ W6 : World, W6 = set2 W2 w.heap.size (.string ⟨#[]⟩) (.bool false) := ⟨_, rfl⟩
    have HW6 : Hid (BoxAt W6 w.heap.size 27 2 w.heap.size [.string ⟨#[]⟩, .bool false] ∧ Below w.heap.size w W6) := by
      rw [hW6]; exact ⟨set2_cells HW2.out.1 _ _, below_set (below_set HW2.out.2.2.2 (Nat.le_refl _) 0 _) (Nat.le_refl _) 1 _⟩
    have p0 := HW6.out.1.cell (j := 0) rfl
    have p1 := HW6.out.1.cell (j := 1) rfl
    unfold set2 at hW6
    by_cases hc0 : c = 0
    · have hun : ¬ (un : Int) = 1 := hz.elim (fun q => absurd hc0 q) (fun q => q)
      have zun : ((un : Int) != 1) = true := by simpa using hun
      subst hc0
      clear hz
      go_wp2_with fail
      rw [← hW6]
      refine bodyPost_ret (v := .agg #[.string ⟨#[]⟩, .bool false]) (by simp [results, Tryd.results6, go_sem, p0, p1]) rfl ⟨rfl, HW6.out.2⟩
    · have zc : (c != 0) = true := by simpa using hc0
      clear hz
      go_wp2_with fail
      rw [← hW6]
      refine bodyPost_ret (v := .agg #[.string ⟨#[]⟩, .bool false]) (by simp [results, Tryd.results6, go_sem, p0, p1]) rfl ⟨rfl, HW6.out.2⟩
  · have hc0 : c = 0 := Classical.not_not.1 (fun q => hz (.inl q))
    have hun : (un : Int) = 1 := Classical.not_not.1 (fun q => hz (.inr q))
    clear hz hzero
    have q0 : (checkM (sb p)).1 = 0 := by rw [← HC.out]; exact hc0
    obtain ⟨g, ts, v, rfl, hgv, hS, hP, hl⟩ : ∃ g ts v, ua = some ⟨g, 0, none⟩ ∧ W2.cell? ⟨g, 0, none⟩ = some v ∧ SeqAt W2 (Bet W0.heap.size w1.heap.size) ts v ∧ r = prefM ts ∧ ts.length ≤ 1000 := by
      rcases HU2.out with ⟨q, os, ho, hU⟩ | ⟨q, hn⟩
      · obtain ⟨g, cp, e, _, hn⟩ := hU.nth
        simp at e
        obtain ⟨ts, rfl⟩ : ∃ ts, os = [ts] := by
          rcases os with _ | ⟨o1, _ | ⟨o2, os⟩⟩
          · exfalso; simp at e; omega
          · exact ⟨o1, rfl⟩
          · exfalso; simp at e; omega
        obtain ⟨v, hv, hS⟩ := hn 0 ts rfl
        refine ⟨g, ts, v, e.1, hv, hS, HR.out.2 q _ ho, ?_⟩
        obtain ⟨n, hg⟩ := ho.gr
        have h3 := seqG_len (fun xs t (z : AtomG n xs t) => by obtain ⟨c, ys, e, _⟩ := z.first; rw [e]; simp) hg
        have h4 := cut_len (p := sb p) (i := 0) (k := p.size) (by rw [sb_len]; exact Nat.le_refl _)
        have h5 : p.size ≤ 200 := by
          apply Classical.byContradiction
          intro h6
          unfold checkM at q0
          rw [if_pos (by rw [sb_len]; omega)] at q0
          exact absurd q0 (by decide)
        omega
      · exact absurd q0 q
    obtain ⟨va, vn, vc, rfl⟩ := hS.slice
    have HS : Hid (SeqAt W2 (Bet W0.heap.size w1.heap.size) ts (.slice va vn vc)) := hS
    clear hS HU2
    subst hc0
    obtain rfl : un = 1 := by omega
    clear hun q0
    go_wp2_with fail
    refine (prefix_core HS.out hl).mono ?_
    rintro e w5 ⟨rfl, hb5⟩
    subst hP
    have s2 := HW2.out.2.2.2.size
    have HW5 : Hid (BoxAt w5 w.heap.size 27 2 w.heap.size [.string ⟨#[]⟩, .bool false] ∧ Below w.heap.size w w5) := ⟨HW2.out.1.below hb5, HW2.out.2.2.2.trans (hb5.mono s2)⟩
    clear hgv b0 a0 r0 r1 f0 f1 hb5
    have r0 := HW5.out.1.cell (j := 0) rfl
    have r1 := HW5.out.1.cell (j := 1) rfl
    have f0 := HW5.out.1.frozen 0
    have f1 := HW5.out.1.frozen 1
    obtain ⟨x, hx⟩ : ∃ x : ByteArray, x = ⟨(prefM ts).1.toArray⟩ := ⟨_, rfl⟩
    obtain ⟨y, hy⟩ : ∃ y : Bool, y = (prefM ts).2 := ⟨_, rfl⟩
    rw [← hx, ← hy]
    obtain ⟨W6, hW6⟩ : ∃ W6 : World, W6 = set2 w5 w.heap.size (.string x) (.bool y) := ⟨_, rfl⟩
    have HW6 : Hid (BoxAt W6 w.heap.size 27 2 w.heap.size [.string x, .bool y] ∧ Below w.heap.size w W6) := by
      rw [hW6]; exact ⟨set2_cells HW5.out.1 _ _, below_set (below_set HW5.out.2 (Nat.le_refl _) 0 _) (Nat.le_refl _) 1 _⟩
    have p0 := HW6.out.1.cell (j := 0) rfl
    have p1 := HW6.out.1.cell (j := 1) rfl
    unfold set2 at hW6
    subst hx hy
    go_wp2_with fail
    rw [← hW6]
    refine bodyPost_ret (v := .agg #[.string ⟨(prefM ts).1.toArray⟩, .bool (prefM ts).2]) (by simp [results, Tryd.results6, go_sem, p0, p1]) rfl ⟨rfl, HW6.out.2⟩
end Go.Proofs.YtgiigiegjaagbaaDoor

/-
  The words of a pattern, and its positions.
-/
namespace Go.Proofs.YtgiigiegjaagbaaDoor
set_option linter.unusedVariables false
set_option linter.unusedSimpArgs false

/-- Words one behind another. -/
inductive Pls (P : List UInt8 → Prop) : List UInt8 → Prop
  | one {x : List UInt8} (h : P x) : Pls P x
  | more {x y : List UInt8} (h : P x) (k : Pls P y) : Pls P (x ++ y)
def RepL (P : List UInt8 → Prop) (o r : Bool) (x : List UInt8) : Prop := (o = true ∧ x = []) ∨ (if r = true then Pls P x else P x)
mutual
/-- The words that a pattern's node takes. -/
def Lg : Pat → List UInt8 → Prop
  | .byte b => fun x => x = [b]
  | .cls f => fun x => ∃ c, x = [c] ∧ f c = true
  | .rep t o r => RepL (Lg t) o r
  | .alt os => LgA os
def LgA : List (List Pat) → List UInt8 → Prop
  | [] => fun _ => False
  | ts :: os => fun x => LgS ts x ∨ LgA os x
def LgS : List Pat → List UInt8 → Prop
  | [] => fun x => x = []
  | t :: ts => fun x => ∃ y z, x = y ++ z ∧ Lg t y ∧ LgS ts z
end
theorem LgS_snoc : ∀ (ts : List Pat) (t : Pat) (x : List UInt8), LgS (ts ++ [t]) x ↔ ∃ y z, x = y ++ z ∧ LgS ts y ∧ Lg t z
  | [], t, x => by
    simp only [List.nil_append, LgS]
    constructor
    · rintro ⟨y, z, rfl, h, rfl⟩; exact ⟨[], y, by simp, rfl, h⟩
    · rintro ⟨y, z, rfl, rfl, h⟩; exact ⟨z, [], by simp, h, rfl⟩
  | s :: ts, t, x => by
    simp only [List.cons_append, LgS]
    constructor
    · rintro ⟨y, z, rfl, h, k⟩
      obtain ⟨u, v, rfl, h1, h2⟩ := (LgS_snoc ts t z).1 k
      exact ⟨y ++ u, v, by simp, ⟨y, u, rfl, h, h1⟩, h2⟩
    · rintro ⟨y, z, rfl, ⟨u, v, rfl, h1, h2⟩, h3⟩
      exact ⟨u, v ++ z, by simp, h1, (LgS_snoc ts t _).2 ⟨v, z, rfl, h2, h3⟩⟩
theorem LgA_mem : ∀ (os : List (List Pat)) (x : List UInt8), LgA os x ↔ ∃ ts ∈ os, LgS ts x
  | [], x => by simp [LgA]
  | ts :: os, x => by simp [LgA, LgA_mem os x]
mutual
/-- Whether the empty word is taken. -/
def nulB : Pat → Bool
  | .byte _ => false
  | .cls _ => false
  | .rep t o _ => o || nulB t
  | .alt os => nulA os
def nulA : List (List Pat) → Bool
  | [] => false
  | ts :: os => nulS ts || nulA os
def nulS : List Pat → Bool
  | [] => true
  | t :: ts => nulB t && nulS ts
end
abbrev PS := Nat → Bool
def sOr (F G : PS) : PS := fun i => F i || G i
def sOne (a : Nat) : PS := fun i => i == a
def sNo : PS := fun _ => false
/-- A pattern's positions: the next free one, which may begin and end a word, the bytes that each takes, which may come next. -/
structure Lay where
  nx : Nat
  fst : PS
  lst : PS
  tk : Nat → UInt8 → Bool
  ed : Nat → Nat → Bool
def Lay.no (a : Nat) : Lay := ⟨a, sNo, sNo, fun _ _ => false, fun _ _ => false⟩
def Lay.seq (g : Lay) (em nt : Bool) (l : Lay) : Lay :=
  ⟨l.nx, if em = true then sOr g.fst l.fst else g.fst, if nt = true then sOr g.lst l.lst else l.lst, fun p c => g.tk p c || l.tk p c, fun p q => g.ed p q || l.ed p q || (g.lst p && l.fst q)⟩
def Lay.alt (g l : Lay) : Lay := ⟨l.nx, sOr g.fst l.fst, sOr g.lst l.lst, fun p c => g.tk p c || l.tk p c, fun p q => g.ed p q || l.ed p q⟩
def Lay.rep (l : Lay) (r : Bool) : Lay := ⟨l.nx, l.fst, l.lst, l.tk, fun p q => l.ed p q || (r && l.lst p && l.fst q)⟩
mutual
def lyP : Pat → Nat → Lay
  | .byte b, a => ⟨a + 1, sOne a, sOne a, fun p c => p == a && c == b, fun _ _ => false⟩
  | .cls f, a => ⟨a + 1, sOne a, sOne a, fun p c => p == a && f c, fun _ _ => false⟩
  | .rep t _ r, a => (lyP t a).rep r
  | .alt os, a => lyA os (Lay.no a)
def lyA : List (List Pat) → Lay → Lay
  | [], g => g
  | ts :: os, g => lyA os (g.alt (lyS ts true (Lay.no g.nx)))
def lyS : List Pat → Bool → Lay → Lay
  | [], _, g => g
  | t :: ts, em, g => lyS ts (em && nulB t) (g.seq em (nulB t) (lyP t g.nx))
end
/-- From position p, taken, over the bytes xs to position q. -/
inductive Pth (l : Lay) : Nat → List UInt8 → Nat → Prop
  | nil (p : Nat) : Pth l p [] p
  | step {p p' q : Nat} {c : UInt8} {xs : List UInt8} (he : l.ed p p' = true) (ht : l.tk p' c = true) (h : Pth l p' xs q) : Pth l p (c :: xs) q
def Wd (l : Lay) (x : List UInt8) : Prop := ∃ c xs p q, x = c :: xs ∧ l.fst p = true ∧ l.tk p c = true ∧ Pth l p xs q ∧ l.lst q = true
structure Spt (a : Nat) (l : Lay) : Prop where
  le : a ≤ l.nx
  fst : ∀ p, l.fst p = true → a ≤ p ∧ p < l.nx
  lst : ∀ p, l.lst p = true → a ≤ p ∧ p < l.nx
  tk : ∀ p c, l.tk p c = true → a ≤ p ∧ p < l.nx
  ed : ∀ p q, l.ed p q = true → (a ≤ p ∧ p < l.nx) ∧ a ≤ q ∧ q < l.nx
structure Cor (a : Nat) (l : Lay) (P : List UInt8 → Prop) (em : Bool) : Prop where
  spt : Spt a l
  wd : ∀ x, P x ↔ (x = [] ∧ em = true) ∨ Wd l x
theorem Pth.in {a : Nat} {l : Lay} (hs : Spt a l) {p q : Nat} {xs : List UInt8} (h : Pth l p xs q) (hp : a ≤ p ∧ p < l.nx) : a ≤ q ∧ q < l.nx := by
  induction h with
  | nil p => exact hp
  | step he ht h ih => exact ih (hs.ed _ _ he).2
theorem Pth.cat {l : Lay} {p q r : Nat} {xs ys : List UInt8} (h : Pth l p xs q) (k : Pth l q ys r) : Pth l p (xs ++ ys) r := by
  induction h with
  | nil p => exact k
  | step he ht h ih => exact .step he ht (ih k)
theorem Pth.mono {l m : Lay} (h1 : ∀ p q, l.ed p q = true → m.ed p q = true) (h2 : ∀ p c, l.tk p c = true → m.tk p c = true) {p q : Nat} {xs : List UInt8} (h : Pth l p xs q) : Pth m p xs q := by
  induction h with
  | nil p => exact .nil p
  | step he ht h ih => exact .step (h1 _ _ he) (h2 _ _ ht) ih
theorem wd_ne {l : Lay} : ¬ Wd l [] := fun ⟨c, xs, p, q, h, _⟩ => by cases h
theorem Cor.nul {a : Nat} {l : Lay} {P : List UInt8 → Prop} {em : Bool} (h : Cor a l P em) : P [] ↔ em = true := by
  rw [h.wd]
  constructor
  · rintro (⟨_, q⟩ | q)
    · exact q
    · exact (wd_ne q).elim
  · exact fun q => .inl ⟨rfl, q⟩
theorem cor_no (a : Nat) : Cor a (Lay.no a) (fun x => x = []) true := by
  refine ⟨⟨Nat.le_refl _, ?_, ?_, ?_, ?_⟩, fun x => ?_⟩
  · intro p h; cases h
  · intro p h; cases h
  · intro p c h; cases h
  · intro p q h; cases h
  · constructor
    · exact fun h => .inl ⟨h, rfl⟩
    · rintro (⟨h, _⟩ | ⟨c, xs, p, q, _, h, _⟩)
      · exact h
      · cases h
theorem cor_none (a : Nat) : Cor a (Lay.no a) (fun _ => False) false := by
  refine ⟨(cor_no a).spt, fun x => ?_⟩
  constructor
  · exact fun h => h.elim
  · rintro (⟨_, h⟩ | ⟨c, xs, p, q, _, h, _⟩)
    · cases h
    · cases h
theorem cor_one (a : Nat) (f : UInt8 → Bool) (T : Nat → UInt8 → Bool) (hT : ∀ p c, T p c = (p == a && f c)) : Cor a ⟨a + 1, sOne a, sOne a, T, fun _ _ => false⟩ (fun x => ∃ c, x = [c] ∧ f c = true) false := by
  refine ⟨⟨Nat.le_succ _, ?_, ?_, ?_, ?_⟩, fun x => ?_⟩
  · intro p h; simp [sOne] at h; simp; omega
  · intro p h; simp [sOne] at h; simp; omega
  · intro p c h; simp [hT] at h; simp; omega
  · intro p q h; cases h
  · constructor
    · rintro ⟨c, rfl, hc⟩
      exact .inr ⟨c, [], a, a, rfl, by simp [sOne], by simp [hT, hc], .nil a, by simp [sOne]⟩
    · rintro (⟨_, h⟩ | ⟨c, xs, p, q, rfl, h1, h2, h3, _⟩)
      · cases h
      · cases h3 with
        | nil => simp [hT] at h2; exact ⟨c, rfl, h2.2⟩
        | step he _ _ => cases he
section
variable {a : Nat} {g l : Lay} {em nt : Bool}
theorem seq_path (hg : Spt a g) (hl : Spt g.nx l) {p q : Nat} {xs : List UInt8} (h : Pth (g.seq em nt l) p xs q) :
    ((g.nx ≤ p ∧ p < l.nx) → Pth l p xs q) ∧ ((a ≤ p ∧ p < g.nx) → Pth g p xs q ∨ ∃ xs1 c xs2 p1 q1, xs = xs1 ++ c :: xs2 ∧ Pth g p xs1 p1 ∧ g.lst p1 = true ∧ l.fst q1 = true ∧ l.tk q1 c = true ∧ Pth l q1 xs2 q) := by
  induction h with
  | nil p => exact ⟨fun _ => .nil p, fun _ => .inl (.nil p)⟩
  | @step p p' q c xs he ht h ih =>
    simp only [Lay.seq, Bool.or_eq_true, Bool.and_eq_true] at he ht
    refine ⟨fun hp => ?_, fun hp => ?_⟩
    · rcases he with (he | he) | he
      · have := (hg.ed _ _ he).1; omega
      · have hp' := (hl.ed _ _ he).2
        rcases ht with ht | ht
        · have := hg.tk _ _ ht; omega
        · exact .step he ht (ih.1 hp')
      · have := hg.lst _ he.1; omega
    · rcases he with (he | he) | he
      · have hp' := (hg.ed _ _ he).2
        rcases ht with ht | ht
        · rcases ih.2 hp' with k | ⟨xs1, c1, xs2, p1, q1, rfl, k1, k2⟩
          · exact .inl (.step he ht k)
          · exact .inr ⟨c :: xs1, c1, xs2, p1, q1, rfl, .step he ht k1, k2⟩
        · have := hl.tk _ _ ht; omega
      · have := (hl.ed _ _ he).1; omega
      · have hp' := hl.fst _ he.2
        rcases ht with ht | ht
        · have := hg.tk _ _ ht; omega
        · exact .inr ⟨[], c, xs, p, p', rfl, .nil p, he.1, he.2, ht, ih.1 hp'⟩
theorem seq_g {p q : Nat} {xs : List UInt8} (h : Pth g p xs q) : Pth (g.seq em nt l) p xs q := h.mono (fun p q h => by simp [Lay.seq, h]) (fun p c h => by simp [Lay.seq, h])
theorem seq_l {p q : Nat} {xs : List UInt8} (h : Pth l p xs q) : Pth (g.seq em nt l) p xs q := h.mono (fun p q h => by simp [Lay.seq, h]) (fun p c h => by simp [Lay.seq, h])
theorem cor_seq {G P : List UInt8 → Prop} (hg : Cor a g G em) (hl : Cor g.nx l P nt) : Cor a (g.seq em nt l) (fun x => ∃ y z, x = y ++ z ∧ G y ∧ P z) (em && nt) := by
  have sg := hg.spt
  have sl := hl.spt
  have hle := sg.le
  have hle2 := sl.le
  have ff : ∀ p, (g.seq em nt l).fst p = true ↔ g.fst p = true ∨ (em = true ∧ l.fst p = true) := fun p => by
    cases em <;> simp [Lay.seq, sOr]
  have fl : ∀ p, (g.seq em nt l).lst p = true ↔ (nt = true ∧ g.lst p = true) ∨ l.lst p = true := fun p => by
    cases nt <;> simp [Lay.seq, sOr]
  refine ⟨⟨Nat.le_trans hle hle2, fun p h => ?_, fun p h => ?_, fun p c h => ?_, fun p q h => ?_⟩, fun x => ?_⟩
  · show a ≤ p ∧ p < l.nx
    rcases (ff p).1 h with h | ⟨_, h⟩
    · have := sg.fst p h; omega
    · have := sl.fst p h; omega
  · show a ≤ p ∧ p < l.nx
    rcases (fl p).1 h with ⟨_, h⟩ | h
    · have := sg.lst p h; omega
    · have := sl.lst p h; omega
  · show a ≤ p ∧ p < l.nx
    simp only [Lay.seq, Bool.or_eq_true] at h
    rcases h with h | h
    · have := sg.tk p c h; omega
    · have := sl.tk p c h; omega
  · show (a ≤ p ∧ p < l.nx) ∧ a ≤ q ∧ q < l.nx
    simp only [Lay.seq, Bool.or_eq_true, Bool.and_eq_true] at h
    rcases h with (h | h) | ⟨h, k⟩
    · have := sg.ed p q h; omega
    · have := sl.ed p q h; omega
    · have := sg.lst p h; have := sl.fst q k; omega
  · constructor
    · rintro ⟨y, z, rfl, hy, hz⟩
      rcases (hg.wd y).1 hy with ⟨rfl, e1⟩ | ⟨c, xs, p, q, rfl, h1, h2, h3, h4⟩
      · rcases (hl.wd z).1 hz with ⟨rfl, e2⟩ | ⟨c, xs, p, q, rfl, h1, h2, h3, h4⟩
        · exact .inl ⟨rfl, by rw [e1, e2]; rfl⟩
        · exact .inr ⟨c, xs, p, q, rfl, (ff p).2 (.inr ⟨e1, h1⟩), by simp [Lay.seq, h2], seq_l h3, (fl q).2 (.inr h4)⟩
      · rcases (hl.wd z).1 hz with ⟨rfl, e2⟩ | ⟨c', xs', p', q', rfl, k1, k2, k3, k4⟩
        · exact .inr ⟨c, xs, p, q, by simp, (ff p).2 (.inl h1), by simp [Lay.seq, h2], seq_g h3, (fl q).2 (.inl ⟨e2, h4⟩)⟩
        · refine .inr ⟨c, xs ++ c' :: xs', p, q', by simp, (ff p).2 (.inl h1), by simp [Lay.seq, h2], (seq_g h3).cat (.step ?_ (by simp [Lay.seq, k2]) (seq_l k3)), (fl q').2 (.inr k4)⟩
          simp [Lay.seq, h4, k1]
    · rintro (⟨rfl, e⟩ | ⟨c, xs, p, q, rfl, h1, h2, h3, h4⟩)
      · simp only [Bool.and_eq_true] at e
        exact ⟨[], [], rfl, hg.nul.2 e.1, hl.nul.2 e.2⟩
      · simp only [Lay.seq, Bool.or_eq_true] at h2
        rcases (ff p).1 h1 with k1 | ⟨e1, k1⟩
        · have hp := sg.fst p k1
          have t1 : g.tk p c = true := by
            rcases h2 with h2 | h2
            · exact h2
            · have := sl.tk p c h2; omega
          rcases (seq_path sg sl h3).2 hp with k | ⟨xs1, c1, xs2, p1, q1, rfl, k2, k3, k4, k5, k6⟩
          · have hq := k.in sg hp
            rcases (fl q).1 h4 with ⟨e2, h4⟩ | h4
            · exact ⟨c :: xs, [], by simp, (hg.wd _).2 (.inr ⟨c, xs, p, q, rfl, k1, t1, k, h4⟩), hl.nul.2 e2⟩
            · have := sl.lst q h4; omega
          · have hq := k6.in sl (sl.fst _ k4)
            rcases (fl q).1 h4 with ⟨_, h4⟩ | h4
            · have := sg.lst q h4; omega
            · exact ⟨c :: xs1, c1 :: xs2, by simp, (hg.wd _).2 (.inr ⟨c, xs1, p, p1, rfl, k1, t1, k2, k3⟩), (hl.wd _).2 (.inr ⟨c1, xs2, q1, q, rfl, k4, k5, k6, h4⟩)⟩
        · have hp := sl.fst p k1
          have t1 : l.tk p c = true := by
            rcases h2 with h2 | h2
            · have := sg.tk p c h2; omega
            · exact h2
          have k := (seq_path sg sl h3).1 hp
          have hq := k.in sl hp
          rcases (fl q).1 h4 with ⟨_, h4⟩ | h4
          · have := sg.lst q h4; omega
          · exact ⟨[], c :: xs, rfl, hg.nul.2 e1, (hl.wd _).2 (.inr ⟨c, xs, p, q, rfl, k1, t1, k, h4⟩)⟩
theorem alt_path (hg : Spt a g) (hl : Spt g.nx l) {p q : Nat} {xs : List UInt8} (h : Pth (g.alt l) p xs q) :
    ((g.nx ≤ p ∧ p < l.nx) → Pth l p xs q) ∧ ((a ≤ p ∧ p < g.nx) → Pth g p xs q) := by
  induction h with
  | nil p => exact ⟨fun _ => .nil p, fun _ => .nil p⟩
  | @step p p' q c xs he ht h ih =>
    simp only [Lay.alt, Bool.or_eq_true] at he ht
    refine ⟨fun hp => ?_, fun hp => ?_⟩
    · rcases he with he | he
      · have := (hg.ed _ _ he).1; omega
      · have hp' := (hl.ed _ _ he).2
        rcases ht with ht | ht
        · have := hg.tk _ _ ht; omega
        · exact .step he ht (ih.1 hp')
    · rcases he with he | he
      · have hp' := (hg.ed _ _ he).2
        rcases ht with ht | ht
        · exact .step he ht (ih.2 hp')
        · have := hl.tk _ _ ht; omega
      · have := (hl.ed _ _ he).1; omega
theorem alt_g {p q : Nat} {xs : List UInt8} (h : Pth g p xs q) : Pth (g.alt l) p xs q := h.mono (fun p q h => by simp [Lay.alt, h]) (fun p c h => by simp [Lay.alt, h])
theorem alt_l {p q : Nat} {xs : List UInt8} (h : Pth l p xs q) : Pth (g.alt l) p xs q := h.mono (fun p q h => by simp [Lay.alt, h]) (fun p c h => by simp [Lay.alt, h])
theorem cor_alt {G P : List UInt8 → Prop} (hg : Cor a g G em) (hl : Cor g.nx l P nt) : Cor a (g.alt l) (fun x => G x ∨ P x) (em || nt) := by
  have sg := hg.spt
  have sl := hl.spt
  have hle := sg.le
  have hle2 := sl.le
  refine ⟨⟨Nat.le_trans hle hle2, fun p h => ?_, fun p h => ?_, fun p c h => ?_, fun p q h => ?_⟩, fun x => ?_⟩
  · show a ≤ p ∧ p < l.nx
    simp only [Lay.alt, sOr, Bool.or_eq_true] at h
    rcases h with h | h
    · have := sg.fst p h; omega
    · have := sl.fst p h; omega
  · show a ≤ p ∧ p < l.nx
    simp only [Lay.alt, sOr, Bool.or_eq_true] at h
    rcases h with h | h
    · have := sg.lst p h; omega
    · have := sl.lst p h; omega
  · show a ≤ p ∧ p < l.nx
    simp only [Lay.alt, Bool.or_eq_true] at h
    rcases h with h | h
    · have := sg.tk p c h; omega
    · have := sl.tk p c h; omega
  · show (a ≤ p ∧ p < l.nx) ∧ a ≤ q ∧ q < l.nx
    simp only [Lay.alt, Bool.or_eq_true] at h
    rcases h with h | h
    · have := sg.ed p q h; omega
    · have := sl.ed p q h; omega
  · constructor
    · rintro (h | h)
      · rcases (hg.wd x).1 h with ⟨rfl, e1⟩ | ⟨c, xs, p, q, rfl, h1, h2, h3, h4⟩
        · exact .inl ⟨rfl, by rw [e1]; rfl⟩
        · exact .inr ⟨c, xs, p, q, rfl, by simp [Lay.alt, sOr, h1], by simp [Lay.alt, h2], alt_g h3, by simp [Lay.alt, sOr, h4]⟩
      · rcases (hl.wd x).1 h with ⟨rfl, e1⟩ | ⟨c, xs, p, q, rfl, h1, h2, h3, h4⟩
        · exact .inl ⟨rfl, by rw [e1, Bool.or_true]⟩
        · exact .inr ⟨c, xs, p, q, rfl, by simp [Lay.alt, sOr, h1], by simp [Lay.alt, h2], alt_l h3, by simp [Lay.alt, sOr, h4]⟩
    · rintro (⟨rfl, e⟩ | ⟨c, xs, p, q, rfl, h1, h2, h3, h4⟩)
      · simp only [Bool.or_eq_true] at e
        rcases e with e | e
        · exact .inl (hg.nul.2 e)
        · exact .inr (hl.nul.2 e)
      · simp only [Lay.alt, sOr, Bool.or_eq_true] at h1 h2 h4
        rcases h1 with k1 | k1
        · have hp := sg.fst p k1
          have k := (alt_path sg sl h3).2 hp
          have hq := k.in sg hp
          refine .inl ((hg.wd _).2 (.inr ⟨c, xs, p, q, rfl, k1, ?_, k, ?_⟩))
          · rcases h2 with h2 | h2
            · exact h2
            · have := sl.tk p c h2; omega
          · rcases h4 with h4 | h4
            · exact h4
            · have := sl.lst q h4; omega
        · have hp := sl.fst p k1
          have k := (alt_path sg sl h3).1 hp
          have hq := k.in sl hp
          refine .inr ((hl.wd _).2 (.inr ⟨c, xs, p, q, rfl, k1, ?_, k, ?_⟩))
          · rcases h2 with h2 | h2
            · have := sg.tk p c h2; omega
            · exact h2
          · rcases h4 with h4 | h4
            · have := sg.lst q h4; omega
            · exact h4
end
theorem rep_l {l : Lay} {r : Bool} {p q : Nat} {xs : List UInt8} (h : Pth l p xs q) : Pth (l.rep r) p xs q := Pth.mono (l := l) (m := l.rep r) (fun p q k => by simp [Lay.rep, k]) (fun p c k => k) h
theorem rep_path {l : Lay} {p q : Nat} {xs : List UInt8} (h : Pth (l.rep true) p xs q) : Pth l p xs q ∨ ∃ xs1 c xs2 p1 q1, xs = xs1 ++ c :: xs2 ∧ Pth l p xs1 p1 ∧ l.lst p1 = true ∧ l.fst q1 = true ∧ l.tk q1 c = true ∧ Pth (l.rep true) q1 xs2 q := by
  induction h with
  | nil p => exact .inl (.nil p)
  | @step p p' q c xs he ht h ih =>
    simp only [Lay.rep, Bool.or_eq_true, Bool.and_eq_true, true_and] at he ht
    rcases he with he | he
    · rcases ih with k | ⟨xs1, c1, xs2, p1, q1, rfl, k1, k2⟩
      · exact .inl (.step he ht k)
      · exact .inr ⟨c :: xs1, c1, xs2, p1, q1, rfl, .step he ht k1, k2⟩
    · exact .inr ⟨[], c, xs, p, p', rfl, .nil p, he.1, he.2, ht, h⟩
theorem rep_words {l : Lay} {P : List UInt8 → Prop} (hw : ∀ x, Wd l x → P x) : ∀ (n : Nat) {x : List UInt8}, x.length ≤ n → Wd (l.rep true) x → Pls P x
  | 0, x, hn, ⟨c, xs, p, q, hx, _⟩ => by subst hx; simp at hn
  | n + 1, x, hn, ⟨c, xs, p, q, hx, h1, h2, h3, h4⟩ => by
    subst hx
    rcases rep_path h3 with k | ⟨xs1, c1, xs2, p1, q1, rfl, k1, k2, k3, k4, k5⟩
    · exact .one (hw _ ⟨c, xs, p, q, rfl, h1, h2, k, h4⟩)
    · have e : c :: (xs1 ++ c1 :: xs2) = (c :: xs1) ++ (c1 :: xs2) := by simp
      rw [e]
      refine .more (hw _ ⟨c, xs1, p, p1, rfl, h1, h2, k1, k2⟩) (rep_words hw n ?_ ⟨c1, xs2, q1, q, rfl, k3, k4, k5, h4⟩)
      simp at hn ⊢; omega
theorem cor_rep {a : Nat} {l : Lay} {P : List UInt8 → Prop} {em : Bool} (h : Cor a l P em) (o r : Bool) : Cor a (l.rep r) (RepL P o r) (o || em) := by
  have s := h.spt
  refine ⟨⟨s.le, s.fst, s.lst, s.tk, fun p q k => ?_⟩, fun x => ?_⟩
  · simp only [Lay.rep, Bool.or_eq_true, Bool.and_eq_true] at k
    rcases k with k | ⟨⟨_, k1⟩, k2⟩
    · exact s.ed p q k
    · exact ⟨s.lst p k1, s.fst q k2⟩
  · cases r with
    | false =>
      have e : ∀ x, Wd (l.rep false) x ↔ Wd l x := fun x => by
        have : l.rep false = l := by simp [Lay.rep]
        rw [this]
      unfold RepL
      rw [if_neg (by decide), e, h.wd]
      cases o <;> cases em <;> simp
    | true =>
      unfold RepL
      rw [if_pos rfl]
      constructor
      · rintro (⟨rfl, rfl⟩ | k)
        · exact .inl ⟨rfl, rfl⟩
        · induction k with
          | one hx =>
            rcases (h.wd _).1 hx with ⟨rfl, e⟩ | ⟨c, xs, p, q, rfl, h1, h2, h3, h4⟩
            · exact .inl ⟨rfl, by rw [e, Bool.or_true]⟩
            · exact .inr ⟨c, xs, p, q, rfl, h1, h2, rep_l h3, h4⟩
          | @more x y hx k ih =>
            rcases (h.wd _).1 hx with ⟨rfl, e⟩ | ⟨c, xs, p, q, rfl, h1, h2, h3, h4⟩
            · exact ih
            · rcases ih with ⟨rfl, e⟩ | ⟨c', xs', p', q', rfl, k1, k2, k3, k4⟩
              · exact .inr ⟨c, xs, p, q, by simp, h1, h2, rep_l h3, h4⟩
              · refine .inr ⟨c, xs ++ c' :: xs', p, q', by simp, h1, h2, (rep_l h3).cat (.step ?_ k2 k3), k4⟩
                have k1' : l.fst p' = true := k1
                simp [Lay.rep, h4, k1']
      · rintro (⟨rfl, e⟩ | k)
        · simp only [Bool.or_eq_true] at e
          rcases e with e | e
          · exact .inl ⟨e, rfl⟩
          · exact .inr (.one (h.nul.2 e))
        · exact .inr (rep_words (fun x hx => (h.wd x).2 (.inr hx)) _ (Nat.le_refl _) k)
theorem Cor.iff {a : Nat} {l : Lay} {P Q : List UInt8 → Prop} {em : Bool} (h : Cor a l P em) (hq : ∀ x, Q x ↔ P x) : Cor a l Q em := ⟨h.spt, fun x => (hq x).trans (h.wd x)⟩
mutual
theorem cor_P : ∀ (t : Pat) (a : Nat), Cor a (lyP t a) (Lg t) (nulB t)
  | .byte b, a => by
    refine (cor_one a (fun c => c == b) _ (fun p c => rfl)).iff (fun x => ?_)
    simp [Lg]
  | .cls f, a => by
    refine (cor_one a f _ (fun p c => rfl)).iff (fun x => ?_)
    simp [Lg]
  | .rep t o r, a => by
    have := cor_rep (cor_P t a) o r
    simp only [lyP, nulB, Lg]
    exact this
  | .alt os, a => by
    have := cor_A os a (Lay.no a) _ _ (cor_none a)
    simp only [lyP, nulB, Lg]
    refine (show Cor a (lyA os (Lay.no a)) _ (nulA os) from ?_)
    rw [Bool.false_or] at this
    exact this.iff (fun x => by simp)
theorem cor_A : ∀ (os : List (List Pat)) (a : Nat) (g : Lay) (G : List UInt8 → Prop) (em : Bool), Cor a g G em → Cor a (lyA os g) (fun x => G x ∨ LgA os x) (em || nulA os)
  | [], a, g, G, em, h => by
    simp only [lyA, nulA, LgA, or_false, Bool.or_false]
    exact h
  | ts :: os, a, g, G, em, h => by
    have h1 := cor_S ts g.nx (Lay.no g.nx) _ _ (cor_no g.nx)
    rw [Bool.true_and] at h1
    have h2 := cor_A os a _ _ _ (cor_alt h h1)
    simp only [lyA, nulA, LgA, ← Bool.or_assoc]
    refine h2.iff (fun x => ?_)
    have e : (∃ y z, x = y ++ z ∧ y = [] ∧ LgS ts z) ↔ LgS ts x := by
      constructor
      · rintro ⟨y, z, rfl, rfl, h⟩; exact h
      · exact fun h => ⟨[], x, rfl, rfl, h⟩
    rw [e, or_assoc]
theorem cor_S : ∀ (ts : List Pat) (a : Nat) (g : Lay) (G : List UInt8 → Prop) (em : Bool), Cor a g G em → Cor a (lyS ts em g) (fun x => ∃ y z, x = y ++ z ∧ G y ∧ LgS ts z) (em && nulS ts)
  | [], a, g, G, em, h => by
    simp only [lyS, nulS, LgS, Bool.and_true]
    refine h.iff (fun x => ?_)
    constructor
    · rintro ⟨y, z, rfl, hy, rfl⟩; simpa using hy
    · exact fun h => ⟨x, [], by simp, h, rfl⟩
  | t :: ts, a, g, G, em, h => by
    have h2 := cor_S ts a _ _ _ (cor_seq h (cor_P t g.nx))
    simp only [lyS, nulS, LgS, ← Bool.and_assoc]
    refine h2.iff (fun x => ?_)
    constructor
    · rintro ⟨y, z, rfl, hy, u, v, rfl, hu, hv⟩; exact ⟨y ++ u, v, by simp, ⟨y, u, rfl, hy, hu⟩, hv⟩
    · rintro ⟨y, z, rfl, ⟨u, v, rfl, hu, hv⟩, hz⟩; exact ⟨u, v ++ z, by simp, hu, v, z, rfl, hv, hz⟩
end
end Go.Proofs.YtgiigiegjaagbaaDoor

/-
  Sets of positions as words of 64 bits.
-/
namespace Go.Proofs.YtgiigiegjaagbaaDoor
set_option linter.unusedVariables false
set_option linter.unusedSimpArgs false

/-- The number whose bits below n are those of f. -/
def ofB (f : Nat → Bool) : Nat → Nat
  | 0 => 0
  | n + 1 => ofB f n ||| (if f n = true then 2 ^ n else 0)
theorem ofB_bit (f : Nat → Bool) : ∀ (n j : Nat), (ofB f n).testBit j = (decide (j < n) && f j)
  | 0, j => by simp [ofB]
  | n + 1, j => by
    unfold ofB
    rw [Nat.testBit_or, ofB_bit f n j]
    by_cases hf : f n = true
    · rw [if_pos hf, Nat.testBit_two_pow]
      by_cases h : j = n
      · subst h; simp [hf]
      · have h1 : decide (n = j) = false := by simp; omega
        have h2 : decide (j < n + 1) = decide (j < n) := by rw [decide_eq_decide]; omega
        rw [h1, h2]; simp
    · rw [if_neg hf, Nat.zero_testBit]
      by_cases h : j = n
      · subst h; simp [hf]
      · have h2 : decide (j < n + 1) = decide (j < n) := by rw [decide_eq_decide]; omega
        rw [h2]; simp
theorem ofB_lt (f : Nat → Bool) (n : Nat) : ofB f n < 2 ^ n := by
  refine Nat.lt_pow_two_of_testBit _ (fun i hi => ?_)
  rw [ofB_bit]
  have : decide (i < n) = false := by simp; omega
  rw [this]; rfl
theorem eq_ofB {x n : Nat} {f : Nat → Bool} (hx : x < 2 ^ n) (h : ∀ j, j < n → x.testBit j = f j) : x = ofB f n := by
  refine Nat.eq_of_testBit_eq (fun j => ?_)
  rw [ofB_bit]
  by_cases hj : j < n
  · rw [h j hj]; simp [hj]
  · rw [Nat.testBit_lt_two_pow (Nat.lt_of_lt_of_le hx (Nat.pow_le_pow_right (by decide) (by omega)))]
    simp [hj]
theorem ofB_congr {f g : Nat → Bool} {n : Nat} (h : ∀ j, j < n → f j = g j) : ofB f n = ofB g n := eq_ofB (ofB_lt f n) (fun j hj => by rw [ofB_bit, h j hj]; simp [hj])
/-- Word i of a set, from bit b on. -/
def wdF (S : PS) (i b : Nat) : Nat := ofB (fun j => S (64 * i + j) && decide (b ≤ j)) 64
def wdN (S : PS) (i : Nat) : Nat := ofB (fun j => S (64 * i + j)) 64
theorem wdF_zero (S : PS) (i : Nat) : wdF S i 0 = wdN S i := ofB_congr (fun j _ => by simp)
theorem wdN_lt (S : PS) (i : Nat) : wdN S i < 18446744073709551616 := ofB_lt _ 64
theorem wdF_lt (S : PS) (i b : Nat) : wdF S i b < 18446744073709551616 := ofB_lt _ 64
def sAnd (F G : PS) : PS := fun i => F i && G i
theorem wd_or (S T : PS) (i : Nat) : bits .or .u64 (wdN S i : Int) (wdN T i : Int) = ((wdN (sOr S T) i : Nat) : Int) := by
  rw [bits_or_u64_nat _ _ (wdN_lt _ _) (wdN_lt _ _)]
  congr 1
  refine eq_ofB (Nat.or_lt_two_pow (wdN_lt _ _) (wdN_lt _ _)) (fun j hj => ?_)
  rw [Nat.testBit_or]
  unfold wdN
  rw [ofB_bit, ofB_bit]
  simp [hj, sOr]
theorem wd_and (S T : PS) (i : Nat) : bits .and .u64 (wdN S i : Int) (wdN T i : Int) = ((wdN (sAnd S T) i : Nat) : Int) := by
  rw [bits_and_u64_nat _ _ (wdN_lt _ _) (wdN_lt _ _)]
  congr 1
  refine eq_ofB (Nat.and_lt_two_pow _ (wdN_lt _ _)) (fun j hj => ?_)
  rw [Nat.testBit_and]
  unfold wdN
  rw [ofB_bit, ofB_bit]
  simp [hj, sAnd]
theorem wd_with (S : PS) (a i : Nat) (hi : i = a / 64) : bits .or .u64 (wdN S i : Int) ((2 ^ (a % 64) : Nat) : Int) = ((wdN (sOr S (sOne a)) i : Nat) : Int) := by
  have hp : 2 ^ (a % 64) < 18446744073709551616 := Nat.pow_lt_pow_right (a := 2) (by decide) (Nat.mod_lt a (by decide) : a % 64 < 64)
  rw [bits_or_u64_nat _ _ (wdN_lt _ _) hp]
  congr 1
  refine eq_ofB (Nat.or_lt_two_pow (wdN_lt _ _) hp) (fun j hj => ?_)
  rw [Nat.testBit_or, Nat.testBit_two_pow]
  unfold wdN
  rw [ofB_bit]
  have h : decide (a % 64 = j) = (64 * i + j == a) := by
    rw [Bool.eq_iff_iff, decide_eq_true_eq, beq_iff_eq]; omega
  simp only [hj, decide_true, Bool.true_and, sOr, sOne, h]
theorem wd_other (S : PS) (a i : Nat) (hi : ¬ i = a / 64) : wdN (sOr S (sOne a)) i = wdN S i := by
  refine ofB_congr (fun j hj => ?_)
  have h : (64 * i + j == a) = false := by rw [beq_eq_false_iff_ne]; omega
  simp only [sOr, sOne, h, Bool.or_false]
/-- The lowest bit, and a number without it. -/
theorem low_bit (x : Nat) (h0 : x ≠ 0) (hx : x < 18446744073709551616) : Lib.ctz 64 x < 64 ∧ x.testBit (Lib.ctz 64 x) = true ∧ (∀ j, j < Lib.ctz 64 x → x.testBit j = false) ∧ ∀ j, (x &&& (x - 1)).testBit j = (decide (Lib.ctz 64 x < j) && x.testBit j) := by
  obtain ⟨m, hm, hk⟩ := Lib.ctzFrom_spec 64 x (by omega) hx
  have e : Lib.ctz 64 x = Lib.ctzFrom 64 x := by simp [Lib.ctz, h0]
  rw [e]
  generalize Lib.ctzFrom 64 x = k at hm hk
  have hb : ∀ j, x.testBit j = (decide (k ≤ j) && (2 * m + 1).testBit (j - k)) := fun j => by
    rw [hm, Nat.mul_comm, Nat.testBit_mul_two_pow]
  have hp : 0 < 2 ^ k := Nat.pow_pos (by decide)
  have hd : (x - 1) / 2 ^ k = 2 * m := by
    have h1 : x - 1 = 2 ^ k * (2 * m) + (2 ^ k - 1) := by rw [hm, Nat.mul_add]; omega
    rw [h1, Nat.mul_add_div hp, Nat.div_eq_of_lt (by omega), Nat.add_zero]
  have hb1 : ∀ j, k ≤ j → (x - 1).testBit j = (2 * m).testBit (j - k) := fun j hj => by
    rw [← hd, Nat.testBit_div_two_pow]
    congr 1
    omega
  refine ⟨hk, by rw [hb]; simp, fun j hj => by rw [hb]; have : decide (k ≤ j) = false := by simp; omega
                                               rw [this]; rfl, fun j => ?_⟩
  rw [Nat.testBit_and, hb j]
  by_cases h1 : k ≤ j
  · rw [hb1 j h1]
    by_cases h2 : j = k
    · subst h2; simp
    · obtain ⟨t, rfl⟩ : ∃ t, j = k + (t + 1) := ⟨j - k - 1, by omega⟩
      have e3 : k + (t + 1) - k = t + 1 := by omega
      have e4 : decide (k < k + (t + 1)) = true := by simp
      have d1 : (2 * m + 1) / 2 = m := by omega
      have d2 : (2 * m) / 2 = m := by omega
      rw [e3, e4, Nat.testBit_succ, Nat.testBit_succ, d1, d2]
      simp
  · have h2 : decide (k ≤ j) = false := by simp; omega
    have h3 : decide (k < j) = false := by simp; omega
    rw [h2, h3]; simp
theorem wdF_low {S : PS} {i b x : Nat} (hx : x = wdF S i b) (h0 : x ≠ 0) : Lib.ctz 64 x < 64 ∧ S (64 * i + Lib.ctz 64 x) = true ∧ b ≤ Lib.ctz 64 x ∧ (∀ j, b ≤ j → j < Lib.ctz 64 x → S (64 * i + j) = false) ∧ x &&& (x - 1) = wdF S i (Lib.ctz 64 x + 1) := by
  have hl : x < 18446744073709551616 := by rw [hx]; exact wdF_lt _ _ _
  obtain ⟨h1, h2, h3, h4⟩ := low_bit x h0 hl
  generalize Lib.ctz 64 x = k at h1 h2 h3 h4
  have hb : ∀ j, j < 64 → x.testBit j = (S (64 * i + j) && decide (b ≤ j)) := fun j hj => by
    rw [hx]; unfold wdF; rw [ofB_bit]; simp [hj]
  rw [hb k h1, Bool.and_eq_true, decide_eq_true_eq] at h2
  refine ⟨h1, h2.1, h2.2, fun j hbj hj => ?_, ?_⟩
  · have := h3 j hj
    rw [hb j (by omega)] at this
    simpa [hbj] using this
  · refine eq_ofB (Nat.and_lt_two_pow _ (by omega)) (fun j hj => ?_)
    rw [h4 j, hb j hj]
    by_cases q : k < j
    · have q1 : decide (k + 1 ≤ j) = true := by simp; omega
      have q2 : decide (b ≤ j) = true := by have := h2.2; simp; omega
      rw [q1, q2]; simp [q]
    · have q1 : decide (k + 1 ≤ j) = false := by simp; omega
      rw [q1]; simp [q]
theorem wdF_none {S : PS} {i b : Nat} (h : wdF S i b = 0) (j : Nat) (hb : b ≤ j) (hj : j < 64) : S (64 * i + j) = false := by
  have h1 : (wdF S i b).testBit j = (S (64 * i + j) && decide (b ≤ j)) := by unfold wdF; rw [ofB_bit]; simp [hj]
  rw [h, Nat.zero_testBit] at h1
  simpa [hb] using h1.symm
theorem sub_one_u64 (x : Nat) (h0 : x ≠ 0) (hx : x < 18446744073709551616) : bits .and .u64 (x : Int) (IntKind.u64.wrap ((x : Int) - 1)) = ((x &&& (x - 1) : Nat) : Int) := by
  have e1 : IntKind.u64.wrap ((x : Int) - 1) = ((x - 1 : Nat) : Int) := by rw [IntKind.wrap_u64]; omega
  rw [e1, bits_and_u64_nat x _ hx (by omega)]
/-- A set as a value. -/
def psL (S : PS) : List Value := [.int .u64 (wdN S 0 : Int), .int .u64 (wdN S 1 : Int), .int .u64 (wdN S 2 : Int), .int .u64 (wdN S 3 : Int)]
abbrev psV (S : PS) : Value := .agg #[.int .u64 (wdN S 0 : Int), .int .u64 (wdN S 1 : Int), .int .u64 (wdN S 2 : Int), .int .u64 (wdN S 3 : Int)]
theorem wdN_congr {S T : PS} (h : ∀ p, p < 256 → S p = T p) {i : Nat} (hi : i < 4) : wdN S i = wdN T i := ofB_congr (fun j hj => h _ (by omega))
theorem psV_congr {S T : PS} (h : ∀ p, p < 256 → S p = T p) : psV S = psV T := by
  simp only [psV]
  rw [wdN_congr h (i := 0) (by omega), wdN_congr h (i := 1) (by omega), wdN_congr h (i := 2) (by omega), wdN_congr h (i := 3) (by omega)]
theorem psL_congr {S T : PS} (h : ∀ p, p < 256 → S p = T p) : psL S = psL T := by
  simp only [psL]
  rw [wdN_congr h (i := 0) (by omega), wdN_congr h (i := 1) (by omega), wdN_congr h (i := 2) (by omega), wdN_congr h (i := 3) (by omega)]
theorem wdN_no (i : Nat) : wdN sNo i = 0 := by
  refine (eq_ofB (by decide) (fun j _ => ?_)).symm
  simp [sNo]
theorem wdN_zero {S : PS} {i : Nat} (h : wdN S i = 0) (j : Nat) (hj : j < 64) : S (64 * i + j) = false := wdF_none (b := 0) (by rw [wdF_zero]; exact h) j (Nat.zero_le _) hj
theorem wdN_inj {S T : PS} {i : Nat} (h : wdN S i = wdN T i) (j : Nat) (hj : j < 64) : S (64 * i + j) = T (64 * i + j) := by
  have h1 : (wdN S i).testBit j = S (64 * i + j) := by unfold wdN; rw [ofB_bit]; simp [hj]
  have h2 : (wdN T i).testBit j = T (64 * i + j) := by unfold wdN; rw [ofB_bit]; simp [hj]
  rw [← h1, ← h2, h]
theorem words_inj {S T : PS} (h : ∀ i, i < 4 → wdN S i = wdN T i) (p : Nat) (hp : p < 256) : S p = T p := by
  have := wdN_inj (h (p / 64) (by omega)) (p % 64) (by omega)
  rwa [show 64 * (p / 64) + p % 64 = p by omega] at this
end Go.Proofs.YtgiigiegjaagbaaDoor

/-
  math/bits.TrailingZeros64, and the members of a set of positions one by one.
-/
namespace Go.Proofs.YtgiigiegjaagbaaDoor
open Go.ChangeShapes Go.WideShapes Go.ChangeAt Go.RowKit Go.Deep Go.Shelf
set_option linter.unusedVariables false
set_option linter.unusedSimpArgs false
set_option maxRecDepth 100000

/-- The table of math/bits as its initialiser lays it. -/
def TabD (w : World) : Prop := ∀ j, j < 64 → w.cell? ⟨0, j, none⟩ = some (.int .u8 (Lib.deBruijn64tab.getD j 0))
theorem TabD.lt {w : World} (h : TabD w) : 0 < w.heap.size := by
  have h0 := h 0 (by omega)
  apply Classical.byContradiction
  intro hn
  rw [World.cell?, Array.getElem?_eq_none (by simp only; omega)] at h0
  simp at h0
theorem neg_key (x a : Nat) (hx : x < 18446744073709551616) (hx0 : x ≠ 0) (hlow : x &&& (18446744073709551616 - x) = a) :
    IntKind.u64.wrap (bits BinOp.and IntKind.u64 (x : Int) (IntKind.u64.wrap (-(x : Int))) * 285870213051353865) / 288230376151711744 = ((a * 285870213051353865 % 18446744073709551616 / 288230376151711744 : Nat) : Int) := by
  have e1 : IntKind.u64.wrap (-(x : Int)) = ((18446744073709551616 - x : Nat) : Int) := by rw [IntKind.wrap_u64]; omega
  rw [e1, bits_and_u64_nat x _ hx (by omega), hlow, IntKind.wrap_u64]
  omega
set_option maxHeartbeats 1000000 in
theorem tz_at (x k idx : Nat) (w : World) (hx0 : ((x : Int) == 0) = false)
    (key : IntKind.u64.wrap (bits BinOp.and IntKind.u64 (x : Int) (IntKind.u64.wrap (-(x : Int))) * 285870213051353865) / 288230376151711744 = (idx : Int))
    (hi : idx < 64) (hk : k < 64) (hcell : w.cell? ⟨0, idx, none⟩ = some (.int .u8 k)) :
    Calls Tryd.prog 62 #[.int .u64 x] w fun e w' => e = .returned (.int .i64 k) ∧ w' = w := by
  go_enter Tryd.func62, Tryd.ntmps62
  go_wp2_with (simp only [key])
  go_ret
  exact ⟨rfl, rfl⟩
theorem tz_core (x : Nat) (hx : x < 18446744073709551616) (hx0 : x ≠ 0) (w : World) (hT : TabD w) : Calls Tryd.prog 62 #[.int .u64 x] w fun e w' => e = .returned (.int .i64 (Lib.ctz 64 x)) ∧ w' = w := by
  obtain ⟨hlow, hk⟩ := Lib.lowest_bit 64 x hx0 hx
  obtain ⟨hi, htab⟩ := Lib.deBruijn64_at _ hk
  have hcell := hT _ hi
  rw [htab] at hcell
  exact tz_at x _ _ w (by simp; omega) (neg_key x _ hx hx0 hlow) hi hk hcell
theorem ps_index (S : PS) {k : Nat} (hk : k < 4) (w : World) : (Instr.index 84 (psV S) (.int .i64 (k : Int))).run Tryd.prog w = .ok (.int .u64 (wdN S k : Int)) w := by
  rcases (by omega : k = 0 ∨ k = 1 ∨ k = 2 ∨ k = 3) with rfl | rfl | rfl | rfl <;> kernel_rfl
set_option maxHeartbeats 4000000 in
/-- The members of a set are handed out one by one, from the least on. -/
theorem members_in (S : PS) (l m : Nat) (hm : 1 ≤ m) (J : Nat → World → Prop)
    (hY : ∀ k x W, J k W → k ≤ x → x < 256 → S x = true → (∀ j, k ≤ j → j < x → S j = false) → YieldAt Fence.wide (m - 1) Tryd.prog l #[.int .i64 (x : Int)] W fun e W' => e = .returned (.bool true) ∧ J (x + 1) W')
    (hJs : ∀ k k' W, J k W → k ≤ k' → (∀ j, k ≤ j → j < k' → S j = false) → J k' W) (hJd : ∀ k W, J k W → J k W.drew) (hJa : ∀ k W (o : Obj), J k W → J k (W.alloc o)) (hJt : ∀ k W, J k W → TabD W) (W : World) (h0 : J 0 W) :
    CallsIn Fence.wide m Tryd.prog 57 #[psV S, .func (.yield l) #[] #[]] W fun e W' => (∃ v, e = .returned v) ∧ J 256 W' := by
  have HJ0 : Hid (J 0 (W.alloc (.cells (psL S).toArray 84))) := hJa _ _ _ h0
  refine callsIn_of_wp Tryd.func57 rfl trivial ?_ rfl
  simp only [Tryd.ntmps57, List.size_toArray, List.length_cons, List.length_nil, Nat.reduceAdd, Nat.reduceSub, Array.replicate_succ, Array.replicate_zero, List.push_toArray, List.append_toArray, List.nil_append, List.cons_append]
  gi_wp2
  gi_loopw [7] (fun iv wr => ∃ i : Nat, i ≤ 4 ∧ iv = .int .i64 (i : Int) ∧ J (64 * i) wr) (fun iv _ => 4 - (intOf iv).toNat)
  case atStart => exact ⟨0, by omega, rfl, HJ0.out⟩
  case round =>
    obtain ⟨i, hi, rfl, hJi⟩ := hrel
    by_cases hlt : i < 4
    · have zi : (i : Int) < 4 := by omega
      have hix := fun w => ps_index S hlt w
      have HJi : Hid (J (64 * i) wr) := hJi
      clear hJi
      gi_wp2
      gi_loopw [5] (fun xv wr => ∃ x b : Nat, xv = .int .u64 (x : Int) ∧ Hid (x = wdF S i b) ∧ b ≤ 64 ∧ Hid (J (64 * i + b) wr)) (fun xv _ => (intOf xv).toNat)
      case atStart => exact ⟨wdN S i, 0, rfl, (wdF_zero S i).symm, by omega, HJi.out⟩
      case round =>
        obtain ⟨x, b, rfl, HX, hb, HJb⟩ := hrel
        by_cases hx0 : x = 0
        · subst hx0
          have hn : Hid (J (64 * (i + 1)) wr) := hJs _ _ _ HJb.out (by omega) (fun j h1 h2 => by
            have := wdF_none HX.out.symm (j - 64 * i) (by omega) (by omega)
            rwa [show 64 * i + (j - 64 * i) = j by omega] at this)
          clear HJb HX HJi
          gi_wp2
          go_roundw
          case rel => exact ⟨i + 1, by omega, by go_num, hn.out⟩
          case measure => simp [intOf]; omega
        · have hxl : x < 18446744073709551616 := by rw [HX.out]; exact wdF_lt _ _ _
          obtain ⟨h1, h2, h3, h4, h5⟩ := wdF_low HX.out hx0
          have HT := tz_core x hxl hx0 wr (hJt _ _ HJb.out)
          obtain ⟨k, hk⟩ : ∃ k, k = Lib.ctz 64 x := ⟨_, rfl⟩
          rw [← hk] at h1 h2 h3 h4 h5 HT
          obtain ⟨fn, tmps, assign, body, hy, hR⟩ := hY _ (64 * i + k) wr HJb.out (by omega) (by omega) h2 (fun j q1 q2 => by
            have := h4 (j - 64 * i) (by omega) (by omega)
            rwa [show 64 * i + (j - 64 * i) = j by omega] at this)
          have e0 : ((64 * i + k : Nat) : Int) = (i : Int) * 64 + (k : Int) := by omega
          rw [e0] at hy
          have zx : ((x : Int) == 0) = false := by simp; omega
          have HN : Hid (x &&& (x - 1) = wdF S i (k + 1) ∧ x &&& (x - 1) < x) := ⟨h5, by have := Nat.and_le_right (n := x) (m := x - 1); omega⟩
          have HS1 : bits .and .u64 (x : Int) ((x : Int) - 1) = ((x &&& (x - 1) : Nat) : Int) := by
            have := sub_one_u64 x hx0 hxl
            rwa [IntKind.wrap_u64, Int.emod_eq_of_lt (by omega) (by omega)] at this
          have HHT : Hid (Calls Tryd.prog 62 #[.int .u64 (x : Int)] wr fun e w' => e = .returned (.int .i64 (k : Int)) ∧ w' = wr) := HT
          obtain ⟨y, hyy⟩ : ∃ y, y = x &&& (x - 1) := ⟨_, rfl⟩
          rw [← hyy] at HS1 HN
          clear HT hk h2 h3 h4 h5 HJi HJb e0 hyy
          gi_wp2
          refine ⟨trivial, (callsIn_wide.2 HHT.out).mono ?_⟩
          rintro e w' ⟨rfl, hw'⟩
          rw [hw']
          clear hw' HHT
          gi_wp2
          refine hR.mono ?_
          rintro e W3 ⟨rfl, hJ3⟩
          have HJ3 : Hid (J (64 * i + (k + 1)) W3) := hJ3
          clear hJ3 hR hy
          gi_wp2_with (simp only [HS1])
          go_roundw
          case rel => exact ⟨y, k + 1, by first | rfl | rw [HS1], HN.out.1, by omega, HJ3.out⟩
          case measure => have := HN.out.2; simp [intOf, HS1]; omega
    · obtain rfl : i = 4 := by omega
      gi_wp2
      go_end0
      exact ⟨⟨_, rfl⟩, hJi⟩
/-- 'for .. := range set.members', no round of which is left early. -/
theorem wp_range_mem {g : Operand} {ps : Array Tmp} {assign body : Code} {Q : Exit → Act → World → Prop} {a : Act} {w : World} {n : Nat} (h1 : 2 ≤ n) (S : PS)
    (hg : a.eval g = .func (.func 57) #[psV S] #[]) (hps : ps.size = 1) (I : Nat → World → Prop) (hI : OwnFrom w.heap.size I) (hIt : ∀ k W, I k W → TabD W)
    (hIs : ∀ k k' W, I k W → k ≤ k' → (∀ j, k ≤ j → j < k' → S j = false) → I k' W) (h0 : I 0 w) (a₁ : Nat → Act)
    (hassign : ∀ (l x : Nat) (W : World) (K : Act → World → Prop), K (a₁ x) W → assign.wpIn (Fence.wide.inRound l) (n - 1 - 1) Tryd.prog (Exit.then K (fun _ _ _ => False)) { tmps := (ps.zip #[.int .i64 (x : Int)]).foldl (fun t (p, v) => t.setIfInBounds p v) a.tmps, defers := [] } W)
    (hbody : ∀ (l k x : Nat) (W : World), I k W → k ≤ x → x < 256 → S x = true → (∀ j, k ≤ j → j < x → S j = false) → body.wpIn (Fence.wide.inRound l) (n - 1 - 1) Tryd.prog (fun e _ W' => e = .normal ∧ KeepsFrom w.heap.size W W' ∧ I (x + 1) W') (a₁ x) W)
    (hdone : ∀ (D : Nat) (W : World), w.heap.size ≤ D → I 256 W → W.heap[D]? = some (.deferred (some [])) → Q .normal { a with defers := { target := .collected D, args := #[] } :: a.defers } W) :
    (Code.rangeFunc g ps assign body).wpIn Fence.wide n Tryd.prog Q a w := by
  refine wpIn_rangeFunc ?_
  intro fn hfn
  obtain ⟨rec, hrec⟩ : ∃ rec : LoopState → Option Code → Loop, rec = fun st pe => { state := st, pending := pe, fn, tmps := a.tmps, params := ps, assign, body, defers := w.heap.size } := ⟨_, rfl⟩
  obtain ⟨W1, hW1⟩ : ∃ W1, (w.alloc (.deferred (some []))).alloc (.loop (rec .ready none)) = W1 := ⟨_, rfl⟩
  have hL1 : W1.heap[w.heap.size + 1]? = some (.loop (rec .ready none)) := by
    rw [← hW1]; have := World.alloc_heap_new (w.alloc (.deferred (some []))) (.loop (rec .ready none)); rwa [World.size_alloc] at this
  have hK1 : W1.heap[w.heap.size]? = some (.deferred (some [])) := by
    rw [← hW1]; exact (Below.heap_alloc _ _ _ (by simp)).trans (World.alloc_heap_new w _)
  have hI1 : I 0 W1 := by rw [← hW1]; exact hI.alloc _ (hI.alloc _ h0)
  refine ⟨w.heap.size + 1, [{ target := .collected w.heap.size, args := #[] }], W1, { target := .fn (.func 57) #[], args := #[psV S, .func (.yield (w.heap.size + 1)) #[] #[]] }, W1, 57,
    #[psV S, .func (.yield (w.heap.size + 1)) #[] #[]], W1, ?_, ?_, fun _ _ => trivial, ?_, fun _ => by omega, ?_⟩
  · rw [← hW1, hrec]; exact run_enterLoop_outer _ _ _ _ _
  · simp only [resolve, hg]
    simp [go_sem]
  · simp [invoke, go_sem]
  · have hkeep : ∀ (k : Nat) {A B : World} {row : Option Nat}, (I k A ∧ A.heap[w.heap.size + 1]? = some (.loop (rec .ready none)) ∧ A.heap[w.heap.size]? = some (.deferred (some []))) → A.grownBy B none → (I k B ∧ B.heap[w.heap.size + 1]? = some (.loop (rec .ready none)) ∧ B.heap[w.heap.size]? = some (.deferred (some []))) := fun k A B row h hgr =>
      ⟨hI k A B none h.1 hgr (fun r e => by cases e), (hgr.block _ (Array.getElem?_eq_some_iff.1 h.2.1).1 (by simp)).trans h.2.1, (hgr.block _ (Array.getElem?_eq_some_iff.1 h.2.2).1 (by simp)).trans h.2.2⟩
    refine (members_in S (w.heap.size + 1) (n - 1) (by omega) (fun k W => I k W ∧ W.heap[w.heap.size + 1]? = some (.loop (rec .ready none)) ∧ W.heap[w.heap.size]? = some (.deferred (some []))) ?_ (fun k k' W h q1 q2 => ⟨hIs k k' W h.1 q1 q2, h.2⟩) (fun k W h => hkeep k (row := none) h ⟨rfl, rfl, rfl, Nat.le_refl _, fun _ _ _ => rfl⟩) (fun k W o h => hkeep k (row := none) h (World.grownBy_alloc W o none)) (fun k W h => hIt k W h.1) W1 ⟨hI1, hL1, hK1⟩).mono ?_
    · rintro k x W ⟨hi, hl, hk⟩ hkx hx hS hbet
      have hlt : w.heap.size + 1 < W.heap.size := (Array.getElem?_eq_some_iff.1 hl).1
      have hy := run_yield (P := Tryd.prog) (args := #[.int .i64 (x : Int)]) hl (by rw [hrec]; exact hps.symm)
      rw [hrec] at hy
      refine ⟨fn, _, assign, body, hy, roundIn_of_wpIn hfn (hassign _ x W _ ⟨_, run_beginRound hl (by rw [hrec]), ?_⟩)⟩
      have hl2 : (W.putObj (w.heap.size + 1) (.loop { rec .ready none with state := .busy })).heap[w.heap.size + 1]? = some (.loop { rec .ready none with state := .busy }) := World.putObj_heap_same hlt
      have hk2 : (W.putObj (w.heap.size + 1) (.loop { rec .ready none with state := .busy })).heap[w.heap.size]? = some (.deferred (some [])) := (World.putObj_heap_other (by omega)).trans hk
      refine wpIn_mono (hbody _ k x _ (hI.putObj _ hi (by omega) hl rfl) hkx hx hS hbet) ?_
      rintro e a3 W3 ⟨rfl, hk3, hi3⟩
      have hl3 := hk3.same _ _ (by omega) hl2 rfl
      have hr := run_endRound (P := Tryd.prog) none hl3
      rw [hrec] at hr hl3
      refine ⟨_, _, hr, rfl, hI.putObj _ hi3 (by omega) hl3 rfl, ?_, (World.putObj_heap_other (by omega)).trans (hk3.same _ _ (Nat.le_refl _) hk2 rfl)⟩
      rw [hrec]
      exact World.putObj_heap_same (Array.getElem?_eq_some_iff.1 hl3).1
    · rintro e W2 ⟨⟨v, rfl⟩, hi, hl, hk⟩
      exact ⟨none, _, by have := run_endLoop (P := Tryd.prog) hl (by rw [hrec]; simp); rw [hrec] at this; exact this, hdone _ _ (Nat.le_refl _) (hI.putObj _ hi (by omega) hl rfl) ((World.putObj_heap_other (by omega)).trans hk)⟩
end Go.Proofs.YtgiigiegjaagbaaDoor

