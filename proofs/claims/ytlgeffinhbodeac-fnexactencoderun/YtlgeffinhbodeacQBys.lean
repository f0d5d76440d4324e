/-
  Bytes in memory.
-/
import Derived.Test.YtlgeffinhbodeacPkA
import Derived.Test.YtlgeffinhbodeacQRow
namespace Go.Proofs.Ytlgeffinhbodeac
open Go.ChangeShapes Go.WideShapes Go.ChangeAt Go.RowKit Go.Deep
set_option linter.unusedVariables false
set_option linter.unusedSimpArgs false
set_option maxRecDepth 100000

abbrev ub (x : UInt8) : Value := .int .u8 (x.toNat : Int)
/-- The bytes lie there. -/
def BysAt (w : World) (b off : Nat) (xs : List UInt8) : Prop := ∀ i x, xs[i]? = some x → w.cell? ⟨b, off + i, none⟩ = some (ub x)
theorem BysAt.below {B : Nat} {w w' : World} {b off : Nat} {xs : List UInt8} (h : BysAt w b off xs) (hb : Below B w w') (hlt : b < B) : BysAt w' b off xs := by
  intro i x hx
  rw [hb.cell (p := ⟨b, off + i, none⟩) hlt]
  exact h i x hx

theorem xor32 (s t : BitVec 32) {x : Int} (hx : x = (t.toNat : Int)) : bits .xor .u32 (s.toNat : Int) x = ((s ^^^ t).toNat : Int) := by
  subst hx
  have h1 : BitVec.ofInt 32 (s.toNat : Int) = s := by simp
  have h2 : BitVec.ofInt 32 (t.toNat : Int) = t := by simp
  show IntKind.wrap .u32 ((BitVec.ofInt 32 (s.toNat : Int) ^^^ BitVec.ofInt 32 (t.toNat : Int)).toNat : Int) = _
  rw [h1, h2]
  have := (s ^^^ t).isLt
  simp only [IntKind.wrap, IntKind.bits, IntKind.signed, Bool.false_and, Bool.false_eq_true, if_false]
  omega
set_option maxHeartbeats 2000000 in
theorem specCrc_core (b off cap : Nat) (xs : List UInt8) (w : World) (hE : BysAt w b off xs) (hlen : xs.length ≤ maxLen) :
    Calls Try.prog 94 #[.slice (some ⟨b, off, none⟩) xs.length cap] w fun e w' => e = .returned (.int .u32 ((crc xs).toNat : Int)) ∧ w' = w := by
  have HE : Hid (BysAt w b off xs) := hE
  clear hE
  unfold maxLen at hlen
  go_enter Try.func94, Try.ntmps94
  go_wp2_with fail
  go_loopw [3, 4] (fun c i wr => ∃ (k : Nat), k ≤ xs.length ∧ c = .int .u32 ((crcTo 4294967295#32 (xs.take k)).toNat : Int) ∧ i = .int .i64 k ∧ wr = w) (fun _ i _ => xs.length - (intOf i).toNat)
  case atStart => exact ⟨0, Nat.zero_le _, rfl, rfl, rfl⟩
  case round =>
    obtain ⟨k, hk, rfl, rfl, rfl⟩ := hrel
    by_cases hlt : k < xs.length
    · obtain ⟨x, hx⟩ : ∃ x, xs[k]? = some x := ⟨_, List.getElem?_eq_getElem hlt⟩
      have c0 := HE.out k x hx
      obtain ⟨s, hs⟩ : ∃ s, s = crcTo 4294967295#32 (xs.take k) := ⟨_, rfl⟩
      rw [← hs]
      have HS : Hid (crcTo 4294967295#32 (xs.take (k + 1)) = crcB s x) := by
        show crcTo 4294967295#32 (xs.take (k + 1)) = crcB s x
        rw [List.take_add_one, hx, hs]; exact crcTo_snoc _ _ _
      clear hx hs
      go_wp2_with fail
      obtain ⟨t, ht⟩ : ∃ t, t = s ^^^ BitVec.ofNat 32 x.toNat := ⟨_, rfl⟩
      have HT : Hid (bits .xor .u32 (s.toNat : Int) ((x.toNat : Int) % 4294967296) = (t.toNat : Int)) := by
        show bits .xor .u32 (s.toNat : Int) ((x.toNat : Int) % 4294967296) = (t.toNat : Int)
        rw [ht]
        refine xor32 s _ ?_
        have := u8lt x
        rw [BitVec.toNat_ofNat]
        omega
      rw [HT.out]
      have HS2 : Hid (crcTo 4294967295#32 (xs.take (k + 1)) = shN 8 t) := by rw [ht]; exact HS.out
      clear ht HS HT
      go_loopw [3, 5] (fun c j wr' => ∃ (q : Nat), q ≤ 8 ∧ c = .int .u32 ((shN q t).toNat : Int) ∧ j = .int .i64 q ∧ wr' = wr) (fun _ j _ => 8 - (intOf j).toNat)
      case atStart => exact ⟨0, Nat.zero_le _, rfl, rfl, rfl⟩
      case round =>
        obtain ⟨q, hq, rfl, rfl, rfl⟩ := hrel
        obtain ⟨c, hc⟩ : ∃ c, c = shN q t := ⟨_, rfl⟩
        have HQ : Hid (shN (q + 1) t = sh c) := by rw [hc]; exact rfl
        rw [← hc]
        by_cases h8 : q < 8
        · by_cases hp : c.toNat % 2 = 1
          · have hz : ((c.toNat : Int) % 2) = 1 := by omega
            clear hc
            go_wp2_with fail
            have hx : bits .xor .u32 ((c.toNat : Int) / 2) 3988292384 = ((sh c).toNat : Int) := by
              have e : (c.toNat : Int) / (2 : Int) = ((c >>> 1).toNat : Int) := by
                rw [BitVec.toNat_ushiftRight, Nat.shiftRight_eq_div_pow]
                omega
              unfold sh
              rw [if_pos hp, e]
              exact xor32 (c >>> 1) 3988292384#32 (by rfl)
            exact ⟨⟨q + 1, by omega, by rw [hx, HQ.out], by go_num, trivial⟩, by simp [intOf]; omega⟩
          · have hz : ¬ ((c.toNat : Int) % 2) = 1 := by omega
            clear hc
            go_wp2_with fail
            have hx : ((c.toNat : Int) / 2) = ((sh c).toNat : Int) := by
              unfold sh
              rw [if_neg hp, BitVec.toNat_ushiftRight, Nat.shiftRight_eq_div_pow]
              omega
            exact ⟨⟨q + 1, by omega, by rw [hx, HQ.out], by go_num, trivial⟩, by simp [intOf]; omega⟩
        · obtain rfl : q = 8 := by omega
          have HE8 : Hid (c = crcTo 4294967295#32 (xs.take (k + 1))) := by rw [hc]; exact HS2.out.symm
          clear hc HQ
          go_wp2_with fail
          exact ⟨⟨k + 1, by omega, by rw [HE8.out], by go_num, trivial⟩, by simp [intOf]; omega⟩
    · obtain rfl : k = xs.length := by omega
      have hx := xor32 (crcTo 4294967295#32 (xs.take xs.length)) 4294967295#32 (x := 4294967295) (by rfl)
      rw [List.take_of_length_le (Nat.le_refl _)] at hx ⊢
      have HX : Hid (bits .xor .u32 ((crcTo 4294967295#32 xs).toNat : Int) 4294967295 = ((crc xs).toNat : Int)) := hx
      clear hx
      go_wp2_with fail
      go_ret
      refine ⟨?_, rfl⟩
      show Ending.returned (Value.int .u32 (bits .xor .u32 ((crcTo 4294967295#32 xs).toNat : Int) 4294967295)) = _
      rw [HX.out]
end Go.Proofs.Ytlgeffinhbodeac
