import Derived.Deep.WholeRow
import Derived.Laws.Rows
import Derived.Laws.Tables
import Derived.Lib.SlBytesRow
import Derived.Lib.Bytealg
import Derived.Lib.Slices
import Derived.Lib.Walk
import Derived.Deep.QuietTactic
import Derived.BigQuiet
import Derived.Deep.DeepCutAuto
import Derived.Deep.RegionWith
import Derived.Test.YtodaanmbbgdclabDoorPkAA
/-
  impl.makeSumTable, (*impl.sumTable).of, impl.Crc32.
-/
namespace Go.Proofs.YtodaanmbbgdclabDoor
open Go.ChangeShapes Go.WideShapes Go.ChangeAt Go.RowKit Go.Deep
set_option linter.unusedVariables false
set_option linter.unusedSimpArgs false
set_option maxRecDepth 100000

/-- The table with its first k entries. -/
def tabA (k : Nat) : Array Value := Array.ofFn (n := 256) fun i => if i.val < k then .int .u32 ((tabE i.val).toNat : Int) else .int .u32 0
theorem tabA_size (k : Nat) : (tabA k).size = 256 := by simp [tabA]
theorem tabA_zero : tabA 0 = Array.replicate 256 (.int .u32 0) := by
  apply Array.ext
  · simp [tabA]
  · intro i h1 h2; simp [tabA]
theorem tabA_at (k i : Nat) (hi : i < k) (h : i < 256) : (tabA k)[i]? = some (.int .u32 ((tabE i).toNat : Int)) := by
  rw [Array.getElem?_eq_getElem (by rw [tabA_size]; exact h)]
  simp [tabA, hi]
theorem tabA_next (k : Nat) (h : k < 256) : (tabA k).setIfInBounds k (.int .u32 ((tabE k).toNat : Int)) = tabA (k + 1) := by
  apply Array.ext
  · simp [tabA]
  · intro i h1 h2
    have h3 : i < 256 := by rw [tabA_size] at h2; exact h2
    simp only [tabA, Array.getElem_setIfInBounds, Array.getElem_ofFn]
    by_cases e : k = i
    · subst e; simp
    · rw [Array.getElem_setIfInBounds_ne (by simpa using h3) e]
      simp only [Array.getElem_ofFn]
      by_cases q : i < k
      · simp [q, show i < k + 1 from by omega]
      · simp [q, show ¬ i < k + 1 from by omega]
/-- The table lies there. -/
def TabAt (w : World) (b off : Nat) : Prop := ∀ i, i < 256 → w.cell? ⟨b, off + i, none⟩ = some (.int .u32 ((tabE i).toNat : Int))
theorem TabAt.below {B : Nat} {w w' : World} {b off : Nat} (h : TabAt w b off) (hb : Below B w w') (hlt : b < B) : TabAt w' b off := by
  intro i hi
  rw [hb.cell (p := ⟨b, off + i, none⟩) hlt]
  exact h i hi

theorem shr32 (s : BitVec 32) (k : Nat) (z : Int) (hz : z = ((2 ^ k : Nat) : Int)) : (s.toNat : Int) / z = ((s >>> k).toNat : Int) := by
  subst hz
  rw [BitVec.toNat_ushiftRight, Nat.shiftRight_eq_div_pow]; exact (Int.natCast_ediv _ _).symm
theorem xor8 (a b : Nat) (ha : a < 256) (hb : b < 256) : bits .xor .u8 (a : Int) (b : Int) = ((a ^^^ b : Nat) : Int) := by
  have h1 : BitVec.ofInt 8 (a : Int) = BitVec.ofNat 8 a := by simp
  have h2 : BitVec.ofInt 8 (b : Int) = BitVec.ofNat 8 b := by simp
  show IntKind.wrap .u8 ((BitVec.ofInt 8 (a : Int) ^^^ BitVec.ofInt 8 (b : Int)).toNat : Int) = _
  rw [h1, h2, BitVec.toNat_xor, BitVec.toNat_ofNat, BitVec.toNat_ofNat, Nat.mod_eq_of_lt ha, Nat.mod_eq_of_lt hb]
  have : a ^^^ b < 256 := Nat.xor_lt_two_pow (n := 8) ha hb
  simp only [IntKind.wrap, IntKind.bits, IntKind.signed, Bool.false_and, Bool.false_eq_true, if_false]
  omega

set_option maxHeartbeats 2000000 in
theorem tableOf_core (tb toff b off cap : Nat) (xs : List UInt8) (w : World) (hT : TabAt w tb toff) (hE : BysAt w b off xs) (hlen : xs.length ≤ maxLen) :
    Calls Tryd.prog 37 #[.pointer (some ⟨tb, toff, none⟩), .slice (some ⟨b, off, none⟩) xs.length cap] w fun e w' => e = .returned (.int .u32 ((crc xs).toNat : Int)) ∧ w' = w := by
  have HE : Hid (BysAt w b off xs ∧ TabAt w tb toff) := ⟨hE, hT⟩
  clear hE hT
  unfold maxLen at hlen
  go_enter Tryd.func37, Tryd.ntmps37
  go_wp2_with fail
  go_loopw [5, 10] (fun c i wr => ∃ (k : Nat), k ≤ xs.length ∧ c = .int .u32 ((crcTo 4294967295#32 (xs.take k)).toNat : Int) ∧ i = .int .i64 k ∧ wr = w) (fun _ i _ => xs.length - (intOf i).toNat)
  case atStart => exact ⟨0, Nat.zero_le _, rfl, rfl, rfl⟩
  case round =>
    obtain ⟨k, hk, rfl, rfl, rfl⟩ := hrel
    by_cases hlt : k < xs.length
    · obtain ⟨x, hx⟩ : ∃ x, xs[k]? = some x := ⟨_, List.getElem?_eq_getElem hlt⟩
      have c0 := HE.out.1 k x hx
      obtain ⟨s, hs⟩ : ∃ s, s = crcTo 4294967295#32 (xs.take k) := ⟨_, rfl⟩
      rw [← hs]
      obtain ⟨m, hm⟩ : ∃ m, m = (s.toNat % 256) ^^^ x.toNat := ⟨_, rfl⟩
      have HS : Hid (crcTo 4294967295#32 (xs.take (k + 1)) = tabE m ^^^ (s >>> 8)) := by
        show crcTo 4294967295#32 (xs.take (k + 1)) = tabE m ^^^ (s >>> 8)
        rw [List.take_add_one, hx, hs, hm]
        exact (crcTo_snoc _ _ _).trans (by rw [crcB_tab, hs])
      have hbx : bits BinOp.xor .u8 ((s.toNat : Int) % 256) (x.toNat : Int) = (m : Int) := by
        rw [hm]; exact xor8 (s.toNat % 256) x.toNat (by omega) (u8lt x)
      have hm2 : m < 256 := by rw [hm]; exact tab_lt s x
      have hmz : (0 : Int) ≤ (m : Int) ∧ (m : Int) < 256 := by omega
      have ct := HE.out.2 m hm2
      clear hx hs hm hm2
      go_wp2_with fail
      have hn : bits BinOp.xor .u32 ((tabE m).toNat : Int) ((s.toNat : Int) / 256) = ((crcTo 4294967295#32 (xs.take (k + 1))).toNat : Int) := by
        rw [HS.out]
        exact xor32 (tabE m) (s >>> 8) (shr32 s 8 256 rfl)
      exact ⟨⟨k + 1, by omega, by rw [hn], by go_num, trivial⟩, by simp [intOf]; omega⟩
    · obtain rfl : k = xs.length := by omega
      rw [List.take_of_length_le (Nat.le_refl _)]
      go_wp2_with fail
      go_ret
      refine ⟨?_, rfl⟩
      have hx : bits BinOp.xor .u32 IntKind.u32.max ((crcTo 4294967295#32 xs).toNat : Int) = ((crc xs).toNat : Int) := by
        unfold crc
        rw [BitVec.xor_comm]
        exact xor32 4294967295#32 (crcTo 4294967295#32 xs) rfl
      show Ending.returned (Value.int .u32 (bits BinOp.xor .u32 IntKind.u32.max ((crcTo 4294967295#32 xs).toNat : Int))) = _
      rw [hx]

theorem and1 (c : BitVec 32) : bits .and .u32 (c.toNat : Int) 1 = ((c.toNat % 2 : Nat) : Int) := by
  have h1 : BitVec.ofInt 32 (c.toNat : Int) = c := by simp
  show IntKind.wrap .u32 ((BitVec.ofInt 32 (c.toNat : Int) &&& BitVec.ofInt 32 1).toNat : Int) = _
  rw [h1, BitVec.toNat_and]
  have : (BitVec.ofInt 32 1).toNat = 1 := by decide
  rw [this, Nat.and_one_is_mod]
  simp only [IntKind.wrap, IntKind.bits, IntKind.signed, Bool.false_and, Bool.false_eq_true, if_false]
  omega

theorem Below.setRow {B : Nat} {a w : World} (h : Below B a w) {g : Nat} (hg : B ≤ g) (cs : Array Value) : Below B a (w.setRow g cs) :=
  h.trans ⟨rfl, rfl, rfl, by simp, fun k hk => setRow_other w g k cs (by omega)⟩
theorem tabA_one (k : Nat) : (tabA k).all (·.oneCell') = true := by
  rw [Array.all_eq_true_iff_forall_mem]
  intro v hv
  obtain ⟨i, hi, rfl⟩ := Array.getElem_of_mem hv
  simp only [tabA, Array.getElem_ofFn]
  split <;> rfl
theorem info_table : (Tryd.prog.info? 45).map (fun i => (i.zero, i.size)) = some (some (.agg (Array.replicate 256 (.int .u32 0))), 256) := by kernel_rfl

set_option maxHeartbeats 2000000 in
theorem makeTable_core (w : World) :
    Calls Tryd.prog 36 #[] w fun e w' => e = .returned (.agg (tabA 256)) ∧ Below w.heap.size w w' := by
  have hzv := (zero_of_info info_table).1
  go_enter Tryd.func36, Tryd.ntmps36
  go_wp2_with fail
  clear hzv
  rw [← tabA_zero]
  obtain ⟨W, hW⟩ : ∃ W, W = w.alloc (.cells (tabA 0) 45) := ⟨_, rfl⟩
  have hs : W.heap.size = w.heap.size + 1 := by rw [hW]; simp
  rw [← hW, ← hs]
  have HW : Hid (W = w.alloc (.cells (tabA 0) 45) ∧ W.heap.size = w.heap.size + 1) := ⟨hW, hs⟩
  clear hW hs
  go_loopw [4] (fun i wr => ∃ (k : Nat), k ≤ 256 ∧ i = .int .i64 k ∧ wr = W.alloc (.cells (tabA k) 45)) (fun i _ => 256 - (intOf i).toNat)
  case atStart => exact ⟨0, Nat.zero_le _, rfl, rfl⟩
  case round =>
    obtain ⟨k, hk, rfl, hwr⟩ := hrel
    by_cases hlt : k < 256
    · have z : (k : Int) < 256 := by omega
      have HB : Hid ((k : Int) = ((BitVec.ofNat 32 k).toNat : Int) ∧ k < 256) := by
        refine ⟨?_, hlt⟩
        rw [BitVec.toNat_ofNat]; omega
      have Hwr : Hid (wr = W.alloc (.cells (tabA k) 45)) := hwr
      clear hwr
      go_wp2_with fail
      go_loopw [3, 9] (fun c j wq => ∃ (q : Nat), q ≤ 8 ∧ c = .int .u32 ((shN q (BitVec.ofNat 32 k)).toNat : Int) ∧ j = .int .i64 q ∧ wq = W.alloc (.cells (tabA k) 45)) (fun _ j _ => 8 - (intOf j).toNat)
      case atStart => exact ⟨0, Nat.zero_le _, congrArg (Value.int .u32) HB.out.1, rfl, Hwr.out⟩
      case round =>
        clear Hwr
        obtain ⟨q, hq, rfl, rfl, hwr⟩ := hrel
        obtain ⟨c, hc⟩ : ∃ c, c = shN q (BitVec.ofNat 32 k) := ⟨_, rfl⟩
        have HQ : Hid (shN (q + 1) (BitVec.ofNat 32 k) = sh c) := by rw [hc]; exact rfl
        rw [← hc]
        by_cases h8 : q < 8
        · have Hwr : Hid (wr = W.alloc (.cells (tabA k) 45)) := hwr
          have z8 : (q : Int) < 8 := by omega
          have ha := and1 c
          clear hwr hc
          by_cases hp : c.toNat % 2 = 1
          · rw [hp] at ha
            have HP : Hid (c.toNat % 2 = 1) := hp
            clear hp
            go_wp2_with fail
            have hx : bits .xor .u32 ((c.toNat : Int) / 2) 3988292384 = ((sh c).toNat : Int) := by
              unfold sh
              rw [if_pos HP.out]
              rw [shr32 c 1 2 rfl]
              exact xor32 (c >>> 1) 3988292384#32 (by rfl)
            exact ⟨⟨q + 1, by omega, by rw [hx, HQ.out], by go_num, Hwr.out⟩, by simp [intOf]; omega⟩
          · rw [show c.toNat % 2 = 0 from by omega] at ha
            have HP : Hid (¬ c.toNat % 2 = 1) := hp
            clear hp
            go_wp2_with fail
            have hx : ((c.toNat : Int) / 2) = ((sh c).toNat : Int) := by
              unfold sh
              rw [if_neg HP.out]
              exact shr32 c 1 2 rfl
            exact ⟨⟨q + 1, by omega, by rw [hx, HQ.out], by go_num, Hwr.out⟩, by simp [intOf]; omega⟩
        · obtain rfl : q = 8 := by omega
          have HC : Hid (c = tabE k) := hc
          have hk2 : k < (tabA k).size := by rw [tabA_size]; exact HB.out.2
          obtain ⟨v, hv⟩ : ∃ v, (tabA k)[k]? = some v := ⟨_, Array.getElem?_eq_getElem hk2⟩
          rw [hwr]
          clear hwr hc hk2
          go_wp2_with fail
          refine ⟨⟨k + 1, by have := HB.out.2; omega, by go_num, ?_⟩, by have := HB.out.2; simp [intOf]; omega⟩
          rw [HC.out, tabA_next k HB.out.2]
    · obtain rfl : k = 256 := by omega
      rw [hwr]
      clear hwr
      go_upto_region 14 with fail
      have hw0 : W.heap[w.heap.size]? = some (.cells (tabA 0) 45 (0, 0)) := by rw [HW.out.1]; exact heap_alloc_new _ _
      have hw1 : (W.alloc (.cells (tabA 256) 45)).heap[w.heap.size]? = some (.cells (tabA 0) 45 (0, 0)) := by
        rw [Below.heap_alloc W _ w.heap.size (by rw [HW.out.2]; omega)]; exact hw0
      have hi : (Tryd.prog.info? 45).map (·.size) = some 256 := (zero_of_info info_table).2
      have hB : Below w.heap.size w ((W.alloc (.cells (tabA 256) 45)).setRow w.heap.size (tabA 256)) := by
        refine Below.setRow ?_ (Nat.le_refl _) _
        rw [HW.out.1]
        exact (((Below.refl _ w).alloc (Nat.le_refl _) _).alloc (by simp) _)
      apply wp_region_list
      refine wpList_load_row rfl 45 _ rfl W.heap.size rfl 45 (tabA 256) (0, 0) _ (heap_alloc_new W _) Tryd.underlying45 rfl (by rw [tabA_size]; exact hi) ?_
      refine wpList_store_row rfl 45 _ _ rfl w.heap.size (tabA 256) rfl rfl 45 (tabA 0) hw1 (by rw [tabA_size]; exact hi) (by rw [tabA_size, tabA_size]) (tabA_one _) ?_
      have hr := setRow_heap _ _ _ (tabA 256) _ _ hw1
      obtain ⟨W2, hW2⟩ : ∃ W2, W2 = (W.alloc (.cells (tabA 256) 45)).setRow w.heap.size (tabA 256) := ⟨_, rfl⟩
      rw [← hW2] at hB hr ⊢
      clear hW2 hw0 hw1
      apply wpList_nil
      go_wp2_with fail
      refine bodyPost_ret (v := .agg (tabA 256)) (results_cell_row rfl _ _ w.heap.size _ _ _ _ rfl hr Tryd.underlying45 rfl (by rw [tabA_size]; exact hi)) rfl ⟨rfl, hB⟩

end Go.Proofs.YtodaanmbbgdclabDoor

/-
  (*impl.byteReader).number, text.
-/
namespace Go.Proofs.YtodaanmbbgdclabDoor
open Go.ChangeShapes Go.WideShapes Go.ChangeAt Go.RowKit Go.Deep
set_option linter.unusedVariables false
set_option linter.unusedSimpArgs false
set_option maxRecDepth 100000

def RdE (w : World) (base g b : Nat) (xs : List UInt8) (code : Int) : Prop := ∃ off cap, RdAt w base g b off cap xs code
theorem RdE.chg {S : Nat → Prop} {w w' : World} {base g b : Nat} {xs : List UInt8} {code : Int} (h : RdE w base g b xs code) (hc : Chg S w w') (hg : ¬ S g) (hb : ¬ S b) : RdE w' base g b xs code := by
  obtain ⟨off, cap, h⟩ := h
  exact ⟨off, cap, h.chg hc hg hb⟩
/-- What a reading leaves: the value and the reader behind it, or the corruption. -/
def NumP (w : World) (base g b : Nat) (xs : List UInt8) (code : Int) (e : Ending) (w' : World) : Prop :=
  Chg (fun k => k = g) w w' ∧ ((∃ (n : Nat) (t : List UInt8), getNum xs = some (n, t) ∧ e = .returned (.int .u64 (n : Int)) ∧ n < 2 ^ 64 ∧ t.length ≤ xs.length ∧ RdE w' base g b t code) ∨ (getNum xs = none ∧ e = Corr code))
theorem and127 (x : UInt8) : bits .and .u8 (x.toNat : Int) 127 = ((x.toNat % 128 : Nat) : Int) := by
  have h1 : BitVec.ofInt 8 (x.toNat : Int) = BitVec.ofNat 8 x.toNat := by simp
  show IntKind.wrap .u8 ((BitVec.ofInt 8 (x.toNat : Int) &&& BitVec.ofInt 8 127).toNat : Int) = _
  rw [h1, BitVec.toNat_and]
  have h2 : (BitVec.ofInt 8 127).toNat = 127 := by decide
  have h3 := u8lt x
  rw [h2, BitVec.toNat_ofNat, Nat.mod_eq_of_lt h3]
  have h4 : x.toNat &&& 127 = x.toNat % 128 := Nat.and_two_pow_sub_one_eq_mod x.toNat 7
  rw [h4]
  simp only [IntKind.wrap, IntKind.bits, IntKind.signed, Bool.false_and, Bool.false_eq_true, if_false]
  omega

theorem pow7 (k : Nat) : 2 ^ (7 * k) = 128 ^ k := by rw [Nat.pow_mul]
theorem pow7i (k : Nat) : (2 : Int) ^ (7 * k) = ((128 ^ k : Nat) : Int) := by rw [← pow7]; norm_cast
theorem shl_fit {k y : Nat} (hk : k ≤ 9) (hy : y < 128) (h9 : k = 9 → y ≤ 1) : IntKind.u64.wrap ((y : Int) * 2 ^ (7 * k)) = ((y * 128 ^ k : Nat) : Int) := by
  rw [pow7i, ← Int.natCast_mul]
  refine wrap_u64 ?_
  by_cases q : k = 9
  · subst q
    have := h9 rfl
    have : y * 128 ^ 9 ≤ 1 * 128 ^ 9 := Nat.mul_le_mul_right _ this
    omega
  · have h1 := pow8 (k := k) (by omega)
    have h2 : y * 128 ^ k ≤ 127 * 72057594037927936 := Nat.mul_le_mul (by omega) h1
    omega
theorem shl_back {k y : Nat} (hk : k ≤ 9) (hy : y < 128) (h9 : k = 9 → y ≤ 1) : (IntKind.u64.wrap ((y : Int) * 2 ^ (7 * k)) / 2 ^ (7 * k) == (y : Int)) = true := by
  rw [shl_fit hk hy h9, pow7i, ← Int.natCast_ediv, Nat.mul_div_cancel _ (Nat.pow_pos (by omega))]
  simp
theorem shl_over {y : Nat} (hy : y < 128) (h9 : ¬ y ≤ 1) : (IntKind.u64.wrap ((y : Int) * 2 ^ (7 * 9)) / 2 ^ (7 * 9) == (y : Int)) = false := by
  rw [beq_eq_false_iff_ne]
  simp only [IntKind.wrap, IntKind.bits, IntKind.signed, Bool.false_and, Bool.false_eq_true, if_false]
  omega
theorem or_add {a y k : Nat} (ha : a < 128 ^ k) (hs : a + y * 128 ^ k < 2 ^ 64) : bits .or .u64 (a : Int) ((y * 128 ^ k : Nat) : Int) = ((a + y * 128 ^ k : Nat) : Int) := by
  have h1 : BitVec.ofInt 64 (a : Int) = BitVec.ofNat 64 a := by simp
  have h2 : BitVec.ofInt 64 ((y * 128 ^ k : Nat) : Int) = BitVec.ofNat 64 (y * 128 ^ k) := BitVec.ofInt_natCast _ _
  show IntKind.wrap .u64 ((BitVec.ofInt 64 (a : Int) ||| BitVec.ofInt 64 ((y * 128 ^ k : Nat) : Int)).toNat : Int) = _
  rw [h1, h2, BitVec.toNat_or, BitVec.toNat_ofNat, BitVec.toNat_ofNat, Nat.mod_eq_of_lt (by omega), Nat.mod_eq_of_lt (by omega)]
  have h3 : a ||| y * 128 ^ k = a + y * 128 ^ k := by
    rw [Nat.or_comm, ← pow7, ← Nat.shiftLeft_eq, ← Nat.shiftLeft_add_eq_or_of_lt (by rw [pow7]; exact ha), Nat.add_comm]
  rw [h3]
  exact wrap_u64 hs

set_option maxHeartbeats 2000000 in
theorem number_core (base g b : Nat) (xs : List UInt8) (code : Int) (w : World) (h : RdE w base g b xs code) :
    Calls Tryd.prog 60 #[.pointer (some ⟨g, 0, none⟩)] w fun e w' => NumP w base g b xs code e w' := by
  have HR : Hid (RdE w base g b xs code) := h
  clear h
  go_enter Tryd.func60, Tryd.ntmps60
  go_wp2_with fail
  go_loopw [3, 4] (fun n s wr => ∃ (k acc : Nat), k ≤ 10 ∧ NumTo xs k acc ∧ (k = 10 → getNum xs = none) ∧ n = .int .u64 (acc : Int) ∧ s = .int .i64 ((7 * k : Nat) : Int) ∧ RdE wr base g b (xs.drop k) code ∧ Chg (fun k => k = g) w wr) (fun _ s _ => 70 - (intOf s).toNat)
  case atStart => exact ⟨0, 0, by omega, numTo_zero xs, by omega, rfl, rfl, HR.out, Chg.refl _ _⟩
  case round =>
    obtain ⟨k, acc, hk, hN, hT, rfl, rfl, hR, hC⟩ := hrel
    have HN : Hid (NumTo xs k acc) := hN
    have HC : Hid (Chg (fun k => k = g) w wr) := hC
    obtain ⟨off, cap, hA⟩ := hR
    have HA : Hid (RdAt wr base g b off cap (xs.drop k) code) := hA
    have c1 := hA.box.cell (j := 1) rfl
    clear hN hC hA
    by_cases h10 : k = 10
    · have z10 : ¬ ((7 * k : Nat) : Int) < 64 := by omega
      have HF : Hid (getNum xs = none) := hT h10
      clear hT h10
      go_wp2_with fail
      exact ⟨rfl, HC.out, .inr ⟨HF.out, rfl⟩⟩
    · have z10 : ((7 * k : Nat) : Int) < 64 := by omega
      clear hT
      by_cases hlt : k < xs.length
      · obtain ⟨x, hx⟩ : ∃ x, xs[k]? = some x := ⟨_, List.getElem?_eq_getElem hlt⟩
        clear c1
        go_upto_region 5 with fail
        go_wp2_with (go_at_call 61; refine (take_ok base g b off cap 1 (xs.drop k) code _ HA.out (by rw [List.length_drop]; omega)).mono ?_; rintro e w1 ⟨rfl, hA1, hC1⟩; have c0 : w1.cell? ⟨b, off, none⟩ = some (ub x) := (by have := ((HA.out.bys.chgR hC1 HA.out.lt HA.out.ne) 0 x (by rw [List.getElem?_drop]; exact hx)); exact this))
        obtain ⟨y, hy⟩ : ∃ y, y = x.toNat % 128 := ⟨_, rfl⟩
        have hg1 : IntKind.u64.wrap (bits BinOp.and IntKind.u8 (x.toNat : Int) 127) = (y : Int) := by
          rw [and127, hy]; exact wrap_u64 (by omega)
        have hg2 : bits BinOp.and IntKind.u8 (x.toNat : Int) 127 = (y : Int) := by rw [and127, hy]
        rw [hg1, hg2]
        have HX : Hid (xs[k]? = some x ∧ y = x.toNat % 128) := ⟨hx, hy⟩
        have HA1 : Hid (RdAt w1 base g b (off + 1) (cap - 1) (xs.drop (k + 1)) code) := by
          have := hA1
          rw [List.drop_drop] at this
          exact this
        have HC1 : Hid (Chg (fun k => k = g) w w1) := HC.out.trans hC1
        have c1 := hA1.box.cell (j := 1) rfl
        have glt := hA1.box.lt.2
        have zy : (y : Int) < 128 := by omega
        clear hx hy hg1 hg2 hA1 hC1 c0 hlt
        by_cases hfit : k = 9 → y ≤ 1
        · have HT : Hid ((IntKind.u64.wrap ((y : Int) * 2 ^ (7 * k)) / 2 ^ (7 * k) == (y : Int)) = true) := shl_back (by omega) (by omega) hfit
          have HS : Hid (IntKind.u64.wrap ((y : Int) * 2 ^ (7 * k)) = ((y * 128 ^ k : Nat) : Int)) := shl_fit (by omega) (by omega) hfit
          have HO : Hid (acc < 128 ^ k ∧ acc + y * 128 ^ k < 2 ^ 64) := by
            refine ⟨HN.out.lt, ?_⟩
            have := HN.out.bound (y := y) (by omega) hfit
            rw [Nat.mod_eq_of_lt (by omega : y < 128)] at this
            exact this
          have HFit : Hid (k = 9 → y ≤ 1) := hfit
          clear hfit
          go_quiet ((rw [HT.out]; go_at_call 34; exact Calls.quiet_of_same (demand_yes _ _)))
          have HW : Hid (Chg (fun k => k = g) w (w1.drewN nq) ∧ RdAt (w1.drewN nq) base g b (off + 1) (cap - 1) (xs.drop (k + 1)) code) := ⟨HC1.out.trans (Chg.of_below (below_drewN (Below.refl _ _) _)), HA1.out.chg (S := fun _ => False) (Chg.of_below (below_drewN (Below.refl _ _) _)) (fun q => q) (fun q => q)⟩
          have c1' := HW.out.2.box.cell (j := 1) rfl
          obtain ⟨w2, hw2⟩ : ∃ w2, w2 = w1.drewN nq := ⟨_, rfl⟩
          rw [← hw2] at HW c1' ⊢
          clear hw2 c1 HC1 HA1 glt
          by_cases hx8 : x.toNat < 128
          · have zx : (x.toNat : Int) < 128 := by omega
            have hlast := HN.out.last HX.out.1 hx8 (by omega) (fun q => by have := HFit.out q; have := HX.out.2; omega)
            have HL : Hid ((0 < k ∧ x.toNat = 0 → getNum xs = none) ∧ (¬ (0 < k ∧ x.toNat = 0) → getNum xs = some (acc + y * 128 ^ k, xs.drop (k + 1)) ∧ acc + y * 128 ^ k < 2 ^ 64)) := by
              refine ⟨hlast.1, fun q => ?_⟩
              have := hlast.2 q
              rw [← HX.out.2] at this
              exact this
            clear hlast hx8
            by_cases hx0 : x.toNat = 0
            · have z0 : (x.toNat : Int) = 0 := by omega
              have HX0 : Hid (x.toNat = 0) := hx0
              clear hx0
              go_wp2_with (go_at_call 34; refine (demand_core _ _ _).mono ?_; rintro e w3 ⟨rfl, (⟨hc, rfl⟩ | ⟨hc, rfl⟩)⟩)
              · have hk0 : k = 0 := by simp at hc; omega
                have HF : Hid (getNum xs = some (acc + y * 128 ^ k, xs.drop (k + 1)) ∧ acc + y * 128 ^ k < 2 ^ 64) := HL.out.2 (fun q => by omega)
                go_ret
                refine ⟨HW.out.1, .inl ⟨acc + y * 128 ^ k, xs.drop (k + 1), HF.out.1, ?_, HF.out.2, by simp, ⟨_, _, HW.out.2⟩⟩⟩
                show Ending.returned (Value.int .u64 (bits BinOp.or .u64 (acc : Int) (IntKind.u64.wrap ((y : Int) * 2 ^ (7 * k))))) = _
                rw [HS.out, or_add HO.out.1 HO.out.2]
              · have hk0 : 0 < k := by
                  by_cases q : k = 0
                  · subst q; simp at hc
                  · omega
                exact ⟨rfl, HW.out.1, .inr ⟨HL.out.1 ⟨hk0, HX0.out⟩, rfl⟩⟩
            · have z0 : ¬ (x.toNat : Int) = 0 := by omega
              have HF : Hid (getNum xs = some (acc + y * 128 ^ k, xs.drop (k + 1)) ∧ acc + y * 128 ^ k < 2 ^ 64) := HL.out.2 (fun q => hx0 q.2)
              clear hx0
              go_wp2_with (go_at_call 34; refine (demand_yes _ _).mono ?_; rintro e w3 ⟨rfl, rfl⟩)
              go_ret
              refine ⟨HW.out.1, .inl ⟨acc + y * 128 ^ k, xs.drop (k + 1), HF.out.1, ?_, HF.out.2, by simp, ⟨_, _, HW.out.2⟩⟩⟩
              show Ending.returned (Value.int .u64 (bits BinOp.or .u64 (acc : Int) (IntKind.u64.wrap ((y : Int) * 2 ^ (7 * k))))) = _
              rw [HS.out, or_add HO.out.1 HO.out.2]
          · have zx : ¬ (x.toNat : Int) < 128 := by omega
            have HM : Hid (NumTo xs (k + 1) (acc + y * 128 ^ k) ∧ (k + 1 = 10 → getNum xs = none)) := by
              refine ⟨?_, fun q => ?_⟩
              · have := HN.out.more HX.out.1 hx8
                rw [← HX.out.2] at this
                exact this
              · obtain rfl : k = 9 := by omega
                exact HN.out.great HX.out.1 (by omega)
            clear hx8
            go_wp2_with fail
            rw [HS.out, or_add HO.out.1 HO.out.2]
            refine ⟨⟨k + 1, acc + y * 128 ^ k, by omega, HM.out.1, HM.out.2, rfl, ?_, ⟨_, _, HW.out.2⟩, HW.out.1⟩, by simp [intOf]; omega⟩
            go_num
        · obtain ⟨rfl, hy1⟩ : k = 9 ∧ ¬ y ≤ 1 := by
            by_cases q : k = 9
            · exact ⟨q, fun q2 => hfit (fun _ => q2)⟩
            · exact absurd (fun q2 => absurd q2 q) hfit
          have HT : Hid ((IntKind.u64.wrap ((y : Int) * 2 ^ (7 * 9)) / 2 ^ (7 * 9) == (y : Int)) = false) := shl_over (by omega) hy1
          have HF : Hid (getNum xs = none) := HN.out.great HX.out.1 (by have := HX.out.2; omega)
          have e1 : ∀ n : Out w1, n.u.cell? ⟨g, 1, none⟩ = some (.int .i64 code) := fun n => (n.out.cell (p := ⟨g, 1, none⟩) glt).trans c1
          clear hfit hy1 c1
          refine wp_region_demand 29 24 (.tmp 28) code [(24, .bool false), (28, .int .i64 code)] rfl (fun m => by kernel_rfl) (by kernel_rfl) (fun a' h => ⟨h (24, _) (by simp), h (28, _) (by simp)⟩) ?q ?_
          case q => exact fun a' w' hb hd => ⟨hd, HC1.out.trans (Chg.of_below hb), .inr ⟨HF.out, rfl⟩⟩
          intro m
          dsimp only [List.dropLast, fk, List.cons_append, List.nil_append]
          repeat (go_big_quiet_step (rfl))
          refine wpQuiet_nil ?_
          exact ⟨rfl, slots2 (congrArg Value.bool HT.out) rfl⟩
      · have HF : Hid (getNum xs = none) := HN.out.none (by omega)
        go_upto_region 5 with fail
        go_wp2_with (go_at_call 61; refine (take_bad base g b off cap 1 (xs.drop k) code _ HA.out (by rw [List.length_drop]; omega) (by omega)).mono ?_; rintro e w1 ⟨rfl, hB1⟩)
        exact ⟨rfl, HC.out.trans (Chg.of_below hB1), .inr ⟨HF.out, rfl⟩⟩
end Go.Proofs.YtodaanmbbgdclabDoor

/-
  The order of keys: spec.CompareKeys and impl.CompareKeys come to one Lean function.
-/
namespace Go.Proofs.YtodaanmbbgdclabDoor
open Go.ChangeShapes Go.WideShapes Go.ChangeAt Go.RowKit Go.Deep

/-- Two strings against each other. -/
def cB (a b : ByteArray) : Int := Lib.compareBytes a.data.toList b.data.toList

theorem compareBytes_less : ∀ a b : List UInt8, Op.bytesLess a b = true → Lib.compareBytes a b = -1
  | [], [] => by simp [Op.bytesLess]
  | [], _ :: _ => by simp [Lib.compareBytes]
  | _ :: _, [] => by simp [Op.bytesLess]
  | a :: x, b :: y => by
    intro h
    simp only [Op.bytesLess, Bool.or_eq_true, decide_eq_true_eq, Bool.and_eq_true, beq_iff_eq] at h
    unfold Lib.compareBytes
    rcases h with h | ⟨rfl, h⟩
    · rw [if_pos h]
    · have hn : ¬ a < a := by simp
      rw [if_neg hn, if_neg hn]; exact compareBytes_less x y h
theorem compareBytes_self : ∀ a : List UInt8, Lib.compareBytes a a = 0
  | [] => rfl
  | a :: x => by
    unfold Lib.compareBytes
    have hn : ¬ a < a := by simp
    rw [if_neg hn, if_neg hn]; exact compareBytes_self x
theorem compareBytes_more : ∀ a b : List UInt8, Op.bytesLess a b = false → (a == b) = false → Lib.compareBytes a b = 1
  | [], [] => by simp
  | [], _ :: _ => by simp [Op.bytesLess]
  | _ :: _, [] => by simp [Lib.compareBytes]
  | a :: x, b :: y => by
    intro h h2
    simp only [Op.bytesLess, Bool.or_eq_false_iff, decide_eq_false_iff_not] at h
    unfold Lib.compareBytes
    rw [if_neg h.1]
    by_cases hb : b < a
    · rw [if_pos hb]
    · rw [if_neg hb]
      have hab : a = b := by
        have h1 := h.1
        rw [UInt8.lt_iff_toNat_lt] at h1 hb
        exact UInt8.toNat_inj.1 (by omega)
      subst hab
      refine compareBytes_more x y ?_ ?_
      · simpa using h.2
      · simpa using h2
theorem compareBytes_vals (a b : List UInt8) : Lib.compareBytes a b = -1 ∨ Lib.compareBytes a b = 0 ∨ Lib.compareBytes a b = 1 := by
  cases h : Op.bytesLess a b
  · cases h2 : (a == b)
    · exact .inr (.inr (compareBytes_more a b h h2))
    · rw [beq_iff_eq] at h2; subst h2; exact .inr (.inl (compareBytes_self a))
  · exact .inl (compareBytes_less a b h)
theorem cB_vals (a b : ByteArray) : cB a b = -1 ∨ cB a b = 0 ∨ cB a b = 1 := compareBytes_vals _ _
theorem cB_less {a b : ByteArray} (h : Op.bytesLess a.toList b.toList = true) : cB a b = -1 := by
  rw [ByteArray.toList_eq, ByteArray.toList_eq] at h; exact compareBytes_less _ _ h
theorem cB_more {a b : ByteArray} (h : Op.bytesLess a.toList b.toList = false) (h2 : (a.toList == b.toList) = false) : cB a b = 1 := by
  rw [ByteArray.toList_eq, ByteArray.toList_eq] at h h2; exact compareBytes_more _ _ h h2
theorem cB_same {a b : ByteArray} (h2 : (a.toList == b.toList) = true) : cB a b = 0 := by
  rw [ByteArray.toList_eq, ByteArray.toList_eq, beq_iff_eq] at h2; unfold cB; rw [h2]; exact compareBytes_self _

def firstOf (a b : Int) : Int := if a = 0 then b else a
def kindCmp (k l : Int) : Int := if k = 2 then (if l = 2 then 0 else -1) else (if l = 2 then 1 else 0)
def tsCmp (t u : Int) : Int := if u < t then -1 else if t < u then 1 else 0
/-- The order of keys. -/
def keyCmp (a b : Ent) : Int := firstOf (cB a.row b.row) (firstOf (cB a.fam b.fam) (firstOf (cB a.qual b.qual) (firstOf (kindCmp a.kind b.kind) (tsCmp a.ts b.ts))))

theorem ret_int {k : IntKind} {a b : Int} (h : a = b) : Ending.returned (.int k a) = .returned (.int k b) := by rw [h]

end Go.Proofs.YtodaanmbbgdclabDoor

/-
  The order of keys: spec.CompareKeys and impl.CompareKeys come to 'keyCmp'.
-/
namespace Go.Proofs.YtodaanmbbgdclabDoor
open Go.ChangeShapes Go.WideShapes Go.ChangeAt Go.RowKit Go.Deep

def tri (x : Int) : Prop := x = -1 ∨ x = 0 ∨ x = 1
theorem tri_first {a b : Int} (h : tri a) (k : tri b) : tri (firstOf a b) := by
  unfold firstOf; split
  · exact k
  · exact h
theorem tri_kind (k l : Int) : tri (kindCmp k l) := by
  unfold kindCmp tri; repeat' split
  all_goals omega
theorem tri_ts (k l : Int) : tri (tsCmp k l) := by
  unfold tsCmp tri; repeat' split
  all_goals omega
theorem keyCmp_vals (a b : Ent) : keyCmp a b = -1 ∨ keyCmp a b = 0 ∨ keyCmp a b = 1 :=
  tri_first (cB_vals _ _) (tri_first (cB_vals _ _) (tri_first (cB_vals _ _) (tri_first (tri_kind _ _) (tri_ts _ _))))

def colCmp (a b : Ent) : Int := firstOf (cB a.row b.row) (firstOf (cB a.fam b.fam) (cB a.qual b.qual))

theorem firstOf_assoc (a b c : Int) : firstOf (firstOf a b) c = firstOf a (firstOf b c) := by
  unfold firstOf
  by_cases h : a = 0
  · simp [h]
  · simp [h]
theorem keyCmp_col (a b : Ent) : keyCmp a b = firstOf (colCmp a b) (firstOf (kindCmp a.kind b.kind) (tsCmp a.ts b.ts)) := by
  unfold keyCmp colCmp
  rw [firstOf_assoc, firstOf_assoc]
theorem keyCmp_ne {a b : Ent} (h : ¬ colCmp a b = 0) : keyCmp a b = colCmp a b := by
  rw [keyCmp_col]; unfold firstOf; rw [if_neg h]
theorem keyCmp_del1 {a b : Ent} (h : colCmp a b = 0) (h1 : a.kind = 2) (h2 : ¬ b.kind = 2) : keyCmp a b = -1 := by
  rw [keyCmp_col]; unfold firstOf kindCmp; simp [h, h1, h2]
theorem keyCmp_del2 {a b : Ent} (h : colCmp a b = 0) (h1 : ¬ a.kind = 2) (h2 : b.kind = 2) : keyCmp a b = 1 := by
  rw [keyCmp_col]; unfold firstOf kindCmp; simp [h, h1, h2]
theorem keyCmp_ts {a b : Ent} (h : colCmp a b = 0) (h1 : (a.kind = 2) ↔ (b.kind = 2)) : keyCmp a b = tsCmp a.ts b.ts := by
  rw [keyCmp_col]; unfold firstOf kindCmp
  by_cases h2 : a.kind = 2
  · simp [h, h2, h1.1 h2]
  · have h3 : ¬ b.kind = 2 := fun x => h2 (h1.2 x)
    simp [h, h2, h3]

def kt (a b : Ent) (K T : Int) : Prop := keyCmp a b = firstOf (cB a.row b.row) (firstOf (cB a.fam b.fam) (firstOf (cB a.qual b.qual) (firstOf K T)))
theorem kt_of {a b : Ent} {K T : Int} (hk : kindCmp a.kind b.kind = K) (ht : tsCmp a.ts b.ts = T) : kt a b K T := by
  unfold kt keyCmp; rw [hk, ht]
theorem kinds (a b : Ent) :
    ((a.kind == 2) = true ∧ (a.kind != 2) = false ∧ (b.kind == 2) = true ∧ (b.kind != 2) = false ∧ kindCmp a.kind b.kind = 0) ∨
    ((a.kind == 2) = true ∧ (a.kind != 2) = false ∧ (b.kind == 2) = false ∧ (b.kind != 2) = true ∧ kindCmp a.kind b.kind = -1) ∨
    ((a.kind == 2) = false ∧ (a.kind != 2) = true ∧ (b.kind == 2) = true ∧ (b.kind != 2) = false ∧ kindCmp a.kind b.kind = 1) ∨
    ((a.kind == 2) = false ∧ (a.kind != 2) = true ∧ (b.kind == 2) = false ∧ (b.kind != 2) = true ∧ kindCmp a.kind b.kind = 0) := by
  unfold kindCmp
  by_cases ha : a.kind = 2 <;> by_cases hb : b.kind = 2 <;> simp [ha, hb]
theorem tss (a b : Ent) :
    (b.ts < a.ts ∧ ¬ a.ts < b.ts ∧ tsCmp a.ts b.ts = -1) ∨ (¬ b.ts < a.ts ∧ a.ts < b.ts ∧ tsCmp a.ts b.ts = 1) ∨ (¬ b.ts < a.ts ∧ ¬ a.ts < b.ts ∧ tsCmp a.ts b.ts = 0) := by
  unfold tsCmp
  by_cases h1 : b.ts < a.ts
  · exact .inl ⟨h1, by omega, by simp [h1]⟩
  · by_cases h2 : a.ts < b.ts
    · exact .inr (.inl ⟨h1, h2, by simp [h1, h2]⟩)
    · exact .inr (.inr ⟨h1, h2, by simp [h1, h2]⟩)

end Go.Proofs.YtodaanmbbgdclabDoor

/-
  Runs that are valid: spec.ValidRun and impl.ValidRun.
-/
namespace Go.Proofs.YtodaanmbbgdclabDoor
open Go.ChangeShapes Go.WideShapes Go.ChangeAt Go.RowKit Go.Deep
set_option linter.unusedVariables false

def Ent.vld (e : Ent) : Bool := vE e.row e.fam e.qual e.kind e.val
/-- One column? -/
def sameCol (a b : Ent) : Bool := (a.row.toList == b.row.toList) && ((a.fam.toList == b.fam.toList) && (a.qual.toList == b.qual.toList))

theorem lift_in {P : Program} {f : Nat} {args : Array Value} {w : World} {v : Value} (W0 : World) (h : Below W0.heap.size W0 w) (c : Calls P f args w fun e w' => e = .returned v ∧ Below w.heap.size w w') :
    Calls P f args w fun e w' => e = .returned v ∧ Below W0.heap.size W0 w' ∧ (∀ b o, b < W0.heap.size → w'.cell? ⟨b, o, none⟩ = W0.cell? ⟨b, o, none⟩) := by
  refine c.mono ?_
  rintro e w' ⟨he, hb⟩
  have k := h.trans (hb.mono h.size)
  exact ⟨he, k, fun b o hlt => k.cell (p := ⟨b, o, none⟩) hlt⟩

/-- May 'p' stand right before 'e' in a run? -/
def okPair (p e : Ent) : Bool := (keyCmp p e == -1) && !((p.kind == 2) && ((e.kind == 2) && sameCol p e))

end Go.Proofs.YtodaanmbbgdclabDoor

/-
  Runs that are valid: the loops of spec.ValidRun, impl.validWrites, impl.ValidRun.
-/
namespace Go.Proofs.YtodaanmbbgdclabDoor
open Go.ChangeShapes Go.WideShapes Go.ChangeAt Go.RowKit Go.Deep
set_option linter.unusedVariables false

/-- All of them are valid, and not too many. -/
def GoodW (es : List Ent) : Prop := es.length ≤ 10000 ∧ ∀ e ∈ es, e.vld = true
/-- Each may stand right before the next. -/
def Pairs (es : List Ent) : Prop := ∀ i p e, es[i]? = some p → es[i + 1]? = some e → okPair p e = true
def GoodR (es : List Ent) : Prop := GoodW es ∧ Pairs es

theorem iffF {p : Prop} (h : ¬ p) : (false = true ↔ p) := ⟨fun x => Bool.noConfusion x, fun x => absurd x h⟩
theorem iffT {p : Prop} (h : p) : (true = true ↔ p) := ⟨fun _ => h, fun _ => rfl⟩
theorem vld_of_take {es : List Ent} {k : Nat} {e : Ent} (h : ∀ x ∈ es.take k, x.vld = true) (he : es[k]? = some e) (hv : e.vld = true) : ∀ x ∈ es.take (k + 1), x.vld = true := by
  intro x hx
  rw [List.take_add_one, he] at hx
  simp at hx
  rcases hx with hx | rfl
  · exact h x hx
  · exact hv

theorem pairs_short {es : List Ent} (h : es.length ≤ 1) : Pairs es := by
  intro i p e h1 h2
  have := (List.getElem?_eq_some_iff.1 h2).1
  omega

/-- The pairs below place 'k'. -/
def PairsTo (es : List Ent) (k : Nat) : Prop := ∀ i p e, i + 1 < k → es[i]? = some p → es[i + 1]? = some e → okPair p e = true
theorem pairsTo_succ {es : List Ent} {m : Nat} {p e : Ent} (h : PairsTo es (m + 1)) (hp : es[m]? = some p) (he : es[m + 1]? = some e) (ho : okPair p e = true) : PairsTo es (m + 1 + 1) := by
  intro i p' e' hi h1 h2
  by_cases hm : i = m
  · subst hm
    rw [hp] at h1; rw [he] at h2
    simp at h1 h2
    subst h1 h2
    exact ho
  · exact h i p' e' (by omega) h1 h2
theorem pairs_of_to {es : List Ent} {k : Nat} (h : PairsTo es k) (hk : es.length ≤ k) : Pairs es := by
  intro i p e h1 h2
  have := (List.getElem?_eq_some_iff.1 h2).1
  exact h i p e (by omega) h1 h2

end Go.Proofs.YtodaanmbbgdclabDoor

/-
  The body of a block, the file of a run (mathematics).
-/
namespace Go.Proofs.YtodaanmbbgdclabDoor
set_option linter.unusedVariables false
set_option linter.unusedSimpArgs false

/-- The bytes of a string. -/
abbrev bl (s : ByteArray) : List UInt8 := s.data.toList
theorem bl_len (s : ByteArray) : (bl s).length = s.size := by simp [bl]
theorem wf_u64 {t : Int} (h : (Lit.int .u64 t).wf = true) : 0 ≤ t ∧ t < 2 ^ 64 := by
  simp only [Lit.wf, Bool.and_eq_true, decide_eq_true_eq] at h
  have h1 : IntKind.u64.min = 0 := rfl
  have h2 : IntKind.u64.max = 18446744073709551615 := rfl
  omega
/-- One entry behind a row. -/
def entB (before : List UInt8) (e : Ent) : List UInt8 :=
  num (shared before (bl e.row)) ++ strB ((bl e.row).drop (shared before (bl e.row))) ++ strB (bl e.fam) ++ strB (bl e.qual) ++ num e.ts.toNat ++ num e.kind.toNat ++ strB (bl e.val)
def body : List UInt8 → List Ent → List UInt8
  | _, [] => []
  | b, e :: es => entB b e ++ body (bl e.row) es
/-- The row ahead. -/
def lastRow : List UInt8 → List Ent → List UInt8
  | b, [] => b
  | _, e :: es => lastRow (bl e.row) es
theorem body_snoc : ∀ (b : List UInt8) (es : List Ent) (e : Ent), body b (es ++ [e]) = body b es ++ entB (lastRow b es) e
  | b, [], e => by simp [body, lastRow]
  | b, x :: es, e => by rw [List.cons_append, body, body, body_snoc (bl x.row) es e, List.append_assoc]; rfl
theorem lastRow_snoc : ∀ (b : List UInt8) (es : List Ent) (e : Ent), lastRow b (es ++ [e]) = bl e.row
  | _, [], _ => rfl
  | _, x :: es, e => lastRow_snoc (bl x.row) es e
theorem vld_parts {e : Ent} (h : e.vld = true) : 1 ≤ e.row.size ∧ e.row.size ≤ 64 ∧ 1 ≤ e.fam.size ∧ e.fam.size ≤ 16 ∧ e.qual.size ≤ 64 ∧ e.val.size ≤ 200 ∧ 0 ≤ e.kind ∧ e.kind ≤ 2 := by
  unfold Ent.vld vE at h
  simp only [Bool.and_eq_true, decide_eq_true_eq] at h
  omega
theorem strB_len {s : List UInt8} (h : s.length < 2 ^ 64) : (strB s).length ≤ 10 + s.length := by
  unfold strB
  have := num_len64 h
  simp; omega
theorem num_kind {k : Nat} (h : k ≤ 2) : (num k).length = 1 := by rw [num_small (by omega)]; rfl
theorem entB_len {b : List UInt8} {e : Ent} (h : e.vld = true) (ht : e.ts.toNat < 2 ^ 64) : (entB b e).length ≤ 500 := by
  obtain ⟨h1, h2, h3, h4, h5, h6, h7, h8⟩ := vld_parts h
  have l0 := (shared_le b (bl e.row)).2
  rw [bl_len] at l0
  have l1 := num_len64 (n := shared b (bl e.row)) (by omega)
  have l2 := strB_len (s := (bl e.row).drop (shared b (bl e.row))) (by simp only [List.length_drop, bl_len]; omega)
  have l3 := strB_len (s := bl e.fam) (by rw [bl_len]; omega)
  have l4 := strB_len (s := bl e.qual) (by rw [bl_len]; omega)
  have l5 := num_len64 (n := e.ts.toNat) ht
  have l6 := num_len64 (n := e.kind.toNat) (by omega)
  have l7 := strB_len (s := bl e.val) (by rw [bl_len]; omega)
  simp only [List.length_drop, bl_len] at l2 l3 l4 l7
  unfold entB
  simp only [List.length_append]
  omega
theorem body_len : ∀ (es : List Ent) (b : List UInt8), (∀ e ∈ es, e.vld = true) → (∀ e ∈ es, e.ts.toNat < 2 ^ 64) → (body b es).length ≤ 500 * es.length
  | [], b, _, _ => by simp [body]
  | e :: es, b, h, k => by
    have h1 := entB_len (b := b) (h e (by simp)) (k e (by simp))
    have h2 := body_len es (bl e.row) (fun x hx => h x (by simp [hx])) (fun x hx => k x (by simp [hx]))
    simp only [body, List.length_append, List.length_cons]
    omega
theorem body_pos {b : List UInt8} {es : List Ent} (h : 0 < es.length) : 0 < (body b es).length := by
  cases es with
  | nil => simp at h
  | cons e es =>
    have := num_pos (shared b (bl e.row))
    simp only [body, entB, List.length_append]
    omega
end Go.Proofs.YtodaanmbbgdclabDoor

/-
  l2Str, l2Shared.
-/
namespace Go.Proofs.YtodaanmbbgdclabDoor
open Go.ChangeShapes Go.WideShapes Go.ChangeAt Go.RowKit Go.Deep
set_option linter.unusedVariables false
set_option linter.unusedSimpArgs false
set_option maxRecDepth 100000

theorem below_bytes (w : World) (s : ByteArray) : Below w.heap.size w (Lib.bytesWorld w 5 s) :=
  ⟨rfl, rfl, rfl, by rw [Lib.bytesWorld_size]; omega, fun k hk => Lib.bytesWorld_at_old w _ s k hk⟩
theorem bys_bytes (w : World) (s : ByteArray) : BysAt (Lib.bytesWorld w 5 s) w.heap.size 0 (bl s) := by
  intro i x hx
  have hi := (List.getElem?_eq_some_iff.1 hx).1
  rw [Nat.zero_add, Lib.bytesWorld_cell w _ s i (by rw [← bl_len]; exact hi), List.getD_eq_getElem?_getD, hx]
  rfl

set_option maxHeartbeats 1000000 in
theorem l2Shared_core (s t : ByteArray) (w : World) (hs : s.size ≤ maxLen) (ht : t.size ≤ maxLen) :
    Calls Tryd.prog 31 #[.string s, .string t] w fun e w' => e = .returned (.int .i64 (shared (bl s) (bl t) : Int)) ∧ Below w.heap.size w w' := by
  unfold maxLen at hs ht
  go_enter Tryd.func31, Tryd.ntmps31
  go_wp2_with fail
  go_loopw [5] (fun i wr => ∃ (k : Nat), k ≤ s.size ∧ k ≤ t.size ∧ i = .int .i64 k ∧ (bl s).take k = (bl t).take k ∧ Below w.heap.size w wr) (fun i _ => s.size - (intOf i).toNat)
  case atStart => exact ⟨0, Nat.zero_le _, Nat.zero_le _, rfl, rfl, Below.refl _ _⟩
  case round =>
    obtain ⟨k, hk1, hk2, rfl, htk, hb⟩ := hrel
    have HT : Hid ((bl s).take k = (bl t).take k) := htk
    clear htk
    by_cases h1 : k < s.size
    · by_cases h2 : k < t.size
      · obtain ⟨x, hx⟩ : ∃ x, (bl s)[k]? = some x := ⟨_, List.getElem?_eq_getElem (by rw [bl_len]; exact h1)⟩
        obtain ⟨y, hy⟩ : ∃ y, (bl t)[k]? = some y := ⟨_, List.getElem?_eq_getElem (by rw [bl_len]; exact h2)⟩
        have gx : s[k] = x := by
          have := hx
          rw [List.getElem?_eq_getElem (by rw [bl_len]; exact h1)] at this
          exact Option.some.inj this
        have gy : t[k] = y := by
          have := hy
          rw [List.getElem?_eq_getElem (by rw [bl_len]; exact h2)] at this
          exact Option.some.inj this
        have z1 : (k : Int) < (s.size : Int) := by omega
        have z2 : (k : Int) < (t.size : Int) := by omega
        have HX : Hid ((bl s)[k]? = some x ∧ (bl t)[k]? = some y) := ⟨hx, hy⟩
        clear hx hy
        by_cases hxy : x = y
        · subst hxy
          have HS : Hid ((bl s).take (k + 1) = (bl t).take (k + 1)) := by
            show (bl s).take (k + 1) = (bl t).take (k + 1)
            rw [List.take_add_one, List.take_add_one, HT.out, HX.out.1, HX.out.2]
          go_upto_region 2 with fail
          go_cut [24] (fun v wx => v = .bool true ∧ Below w.heap.size w wx)
          case first =>
            go_region
            all_goals go_wp2_with fail
            all_goals go_meet
            all_goals exact ⟨by simp, hb.drew⟩
          case rest =>
          obtain ⟨rfl, hbc⟩ := hcut
          go_wp2_with fail
          go_roundw
          case rel => exact ⟨k + 1, by omega, by omega, by go_num, HS.out, hbc⟩
          case measure => simp [intOf]; omega
        · have HS : Hid (shared (bl s) (bl t) = k) := by
            refine shared_iff _ _ k (by rw [bl_len]; exact hk1) (by rw [bl_len]; exact hk2) HT.out (.inr (.inr ?_))
            rw [HX.out.1, HX.out.2]
            exact fun q => hxy (Option.some.inj q)
          have hne : ¬ x.toNat = y.toNat := fun q => hxy (UInt8.toNat_inj.1 q)
          go_upto_region 2 with fail
          go_cut [24] (fun v wx => v = .bool false ∧ Below w.heap.size w wx)
          case first =>
            go_region
            all_goals go_wp2_with fail
            all_goals go_meet
            all_goals exact ⟨by simp; omega, hb.drew⟩
          case rest =>
          obtain ⟨rfl, hbc⟩ := hcut
          go_wp2_with fail
          go_ret
          exact ⟨by rw [HS.out]; rfl, hbc⟩
      · have HS : Hid (shared (bl s) (bl t) = k) := shared_iff _ _ k (by rw [bl_len]; exact hk1) (by rw [bl_len]; exact hk2) HT.out (.inr (.inl (by rw [bl_len]; omega)))
        have z1 : (k : Int) < (s.size : Int) := by omega
        have z2 : ¬ (k : Int) < (t.size : Int) := by omega
        go_upto_region 2 with fail
        go_cut [24] (fun v wx => v = .bool false ∧ Below w.heap.size w wx)
        case first =>
          go_region
          all_goals go_wp2_with fail
          all_goals go_meet
          all_goals exact ⟨rfl, hb.drew⟩
        case rest =>
        obtain ⟨rfl, hbc⟩ := hcut
        go_wp2_with fail
        go_ret
        exact ⟨by rw [HS.out]; rfl, hbc⟩
    · have HS : Hid (shared (bl s) (bl t) = k) := shared_iff _ _ k (by rw [bl_len]; exact hk1) (by rw [bl_len]; exact hk2) HT.out (.inl (by rw [bl_len]; omega))
      have z1 : ¬ (k : Int) < (s.size : Int) := by omega
      go_upto_region 2 with fail
      go_cut [24] (fun v wx => v = .bool false ∧ Below w.heap.size w wx)
      case first =>
        go_region
        all_goals go_wp2_with fail
        all_goals go_meet
        all_goals exact ⟨rfl, hb.drew⟩
      case rest =>
      obtain ⟨rfl, hbc⟩ := hcut
      go_wp2_with fail
      go_ret
      exact ⟨by rw [HS.out]; rfl, hbc⟩
end Go.Proofs.YtodaanmbbgdclabDoor

/-
  impl.sharedBytes.
-/
namespace Go.Proofs.YtodaanmbbgdclabDoor
open Go.ChangeShapes Go.WideShapes Go.ChangeAt Go.RowKit Go.Deep
set_option linter.unusedVariables false
set_option linter.unusedSimpArgs false
set_option maxRecDepth 100000

set_option maxHeartbeats 1000000 in
theorem implShared_core (s t : ByteArray) (w : World) (hs : s.size ≤ maxLen) (ht : t.size ≤ maxLen) :
    Calls Tryd.prog 84 #[.string s, .string t] w fun e w' => e = .returned (.int .i64 (shared (bl s) (bl t) : Int)) ∧ Below w.heap.size w w' := by
  unfold maxLen at hs ht
  go_enter Tryd.func84, Tryd.ntmps84
  go_wp2_with fail
  go_loopw [5] (fun i wr => ∃ (k : Nat), k ≤ s.size ∧ k ≤ t.size ∧ i = .int .i64 k ∧ (bl s).take k = (bl t).take k ∧ Below w.heap.size w wr) (fun i _ => s.size - (intOf i).toNat)
  case atStart => exact ⟨0, Nat.zero_le _, Nat.zero_le _, rfl, rfl, Below.refl _ _⟩
  case round =>
    obtain ⟨k, hk1, hk2, rfl, htk, hb⟩ := hrel
    have HT : Hid ((bl s).take k = (bl t).take k) := htk
    clear htk
    by_cases h1 : k < s.size
    · by_cases h2 : k < t.size
      · obtain ⟨x, hx⟩ : ∃ x, (bl s)[k]? = some x := ⟨_, List.getElem?_eq_getElem (by rw [bl_len]; exact h1)⟩
        obtain ⟨y, hy⟩ : ∃ y, (bl t)[k]? = some y := ⟨_, List.getElem?_eq_getElem (by rw [bl_len]; exact h2)⟩
        have gx : s[k] = x := by
          have := hx
          rw [List.getElem?_eq_getElem (by rw [bl_len]; exact h1)] at this
          exact Option.some.inj this
        have gy : t[k] = y := by
          have := hy
          rw [List.getElem?_eq_getElem (by rw [bl_len]; exact h2)] at this
          exact Option.some.inj this
        have z1 : (k : Int) < (s.size : Int) := by omega
        have z2 : (k : Int) < (t.size : Int) := by omega
        have HX : Hid ((bl s)[k]? = some x ∧ (bl t)[k]? = some y) := ⟨hx, hy⟩
        clear hx hy
        by_cases hxy : x = y
        · subst hxy
          have HS : Hid ((bl s).take (k + 1) = (bl t).take (k + 1)) := by
            show (bl s).take (k + 1) = (bl t).take (k + 1)
            rw [List.take_add_one, List.take_add_one, HT.out, HX.out.1, HX.out.2]
          go_upto_region 2 with fail
          go_cut [24] (fun v wx => v = .bool true ∧ Below w.heap.size w wx)
          case first =>
            go_region
            all_goals go_wp2_with fail
            all_goals go_meet
            all_goals exact ⟨by simp, hb.drew⟩
          case rest =>
          obtain ⟨rfl, hbc⟩ := hcut
          go_wp2_with fail
          go_roundw
          case rel => exact ⟨k + 1, by omega, by omega, by go_num, HS.out, hbc⟩
          case measure => simp [intOf]; omega
        · have HS : Hid (shared (bl s) (bl t) = k) := by
            refine shared_iff _ _ k (by rw [bl_len]; exact hk1) (by rw [bl_len]; exact hk2) HT.out (.inr (.inr ?_))
            rw [HX.out.1, HX.out.2]
            exact fun q => hxy (Option.some.inj q)
          have hne : ¬ x.toNat = y.toNat := fun q => hxy (UInt8.toNat_inj.1 q)
          go_upto_region 2 with fail
          go_cut [24] (fun v wx => v = .bool false ∧ Below w.heap.size w wx)
          case first =>
            go_region
            all_goals go_wp2_with fail
            all_goals go_meet
            all_goals exact ⟨by simp; omega, hb.drew⟩
          case rest =>
          obtain ⟨rfl, hbc⟩ := hcut
          go_wp2_with fail
          go_ret
          exact ⟨by rw [HS.out]; rfl, hbc⟩
      · have HS : Hid (shared (bl s) (bl t) = k) := shared_iff _ _ k (by rw [bl_len]; exact hk1) (by rw [bl_len]; exact hk2) HT.out (.inr (.inl (by rw [bl_len]; omega)))
        have z1 : (k : Int) < (s.size : Int) := by omega
        have z2 : ¬ (k : Int) < (t.size : Int) := by omega
        go_upto_region 2 with fail
        go_cut [24] (fun v wx => v = .bool false ∧ Below w.heap.size w wx)
        case first =>
          go_region
          all_goals go_wp2_with fail
          all_goals go_meet
          all_goals exact ⟨rfl, hb.drew⟩
        case rest =>
        obtain ⟨rfl, hbc⟩ := hcut
        go_wp2_with fail
        go_ret
        exact ⟨by rw [HS.out]; rfl, hbc⟩
    · have HS : Hid (shared (bl s) (bl t) = k) := shared_iff _ _ k (by rw [bl_len]; exact hk1) (by rw [bl_len]; exact hk2) HT.out (.inl (by rw [bl_len]; omega))
      have z1 : ¬ (k : Int) < (s.size : Int) := by omega
      go_upto_region 2 with fail
      go_cut [24] (fun v wx => v = .bool false ∧ Below w.heap.size w wx)
      case first =>
        go_region
        all_goals go_wp2_with fail
        all_goals go_meet
        all_goals exact ⟨rfl, hb.drew⟩
      case rest =>
      obtain ⟨rfl, hbc⟩ := hcut
      go_wp2_with fail
      go_ret
      exact ⟨by rw [HS.out]; rfl, hbc⟩
end Go.Proofs.YtodaanmbbgdclabDoor

/-
  spec.l2GetNum.
-/
namespace Go.Proofs.YtodaanmbbgdclabDoor
open Go.ChangeShapes Go.WideShapes Go.ChangeAt Go.RowKit Go.Deep
set_option linter.unusedVariables false
set_option linter.unusedSimpArgs false
set_option maxRecDepth 100000

theorem wrapU {x : Int} (h0 : 0 ≤ x) (h1 : x < 18446744073709551616) : IntKind.u64.wrap x = x := by
  simp only [IntKind.wrap, IntKind.bits, IntKind.signed, Bool.false_and, Bool.false_eq_true, if_false]
  omega
/-- What a reader has before it. -/
def rd (xs : List UInt8) (i : Nat) (bad : Bool) : Option (List UInt8) := if bad then none else some (xs.drop i)
abbrev rdV (b off cap n i : Nat) (bad : Bool) : Value := .agg #[.slice (some ⟨b, off, none⟩) n cap, .int .i64 (i : Int), .bool bad]
/-- A number read. -/
def GotNum (xs : List UInt8) (i : Nat) (bad : Bool) (i' : Nat) (bad' : Bool) (n : Nat) : Prop :=
  i' ≤ xs.length ∧ n < 2 ^ 64 ∧ ((bad' = true ∧ (rd xs i bad).bind getNum = none) ∨ (bad' = false ∧ (rd xs i bad).bind getNum = some (n, xs.drop i')))

/-- .. as the call says it. -/
def NumPost (w : World) (b off cap : Nat) (xs : List UInt8) (i : Nat) (bad : Bool) (r : Ending) (w' : World) : Prop :=
  ∃ (i' : Nat) (bad' : Bool) (n : Nat), r = .returned (.tuple #[rdV b off cap xs.length i' bad', .int .u64 (n : Int)]) ∧ GotNum xs i bad i' bad' n ∧ Below w.heap.size w w'
set_option maxHeartbeats 8000000 in
theorem l2GetNum_core (b off cap : Nat) (xs : List UInt8) (i : Nat) (bad : Bool) (w : World) (hx : BysAt w b off xs) (hb : b < w.heap.size) (hlen : xs.length ≤ 2 ^ 30) (hi : i ≤ xs.length) :
    Calls Tryd.prog 29 #[rdV b off cap xs.length i bad] w fun r w' => NumPost w b off cap xs i bad r w' := by
  have HX : Hid (BysAt w b off xs) := hx
  clear hx
  have bel : ∀ (c1 c2 : Array Value), Below w.heap.size w ((w.alloc (Obj.cells c1 74)).alloc (Obj.cells c2 74)) := fun c1 c2 => ((Below.refl _ _).alloc (Nat.le_refl _) _).alloc (by simp) _
  have HBel : Hid (∀ (c1 c2 : Array Value), Below w.heap.size w ((w.alloc (Obj.cells c1 74)).alloc (Obj.cells c2 74))) := bel
  clear bel
  cases bad
  case true =>
    go_enter Tryd.func29, Tryd.ntmps29
    go_upto_region 4 with fail
    go_loopw [4, 5, 6] (fun n p k wr => n = .int .u64 0 ∧ p = .int .u64 1 ∧ k = .int .i64 0 ∧ wr = ((w.alloc (Obj.cells #[.slice (some ⟨b, off, none⟩) xs.length cap, .int .i64 (i : Int), .bool true] 74)).alloc (Obj.cells #[.slice none 0 0, .int .i64 0, .bool false] 74))) (fun _ _ _ _ => 0)
    case atStart => exact ⟨rfl, rfl, rfl, rfl⟩
    case round =>
      obtain ⟨rfl, rfl, rfl, rfl⟩ := hrel
      go_wp2_with fail
      exact bodyPost_ret (v := .tuple #[rdV b off cap xs.length i true, .int .u64 0]) (by simp [results, Tryd.results29, go_sem]) rfl ⟨i, true, 0, rfl, ⟨hi, by omega, .inl ⟨rfl, rfl⟩⟩, HBel.out _ _⟩
  case false =>
    go_enter Tryd.func29, Tryd.ntmps29
    go_upto_region 4 with fail
    go_loopw [4, 5, 6] (fun n p k wr => ∃ (q acc pl j : Nat), q ≤ 9 ∧ n = .int .u64 (acc : Int) ∧ p = .int .u64 (pl : Int) ∧ k = .int .i64 (q : Int) ∧ pl = 128 ^ q ∧ j = i + q ∧ NumTo (xs.drop i) q acc ∧ wr = ((w.alloc (Obj.cells #[.slice (some ⟨b, off, none⟩) xs.length cap, .int .i64 (j : Int), .bool false] 74)).alloc (Obj.cells #[.slice none 0 0, .int .i64 0, .bool false] 74))) (fun _ _ k _ => 10 - (intOf k).toNat)
    case atStart => exact ⟨0, 0, 1, i, by omega, rfl, rfl, rfl, rfl, rfl, numTo_zero _, rfl⟩
    case round =>
      obtain ⟨q, acc, pl, j, hq, rfl, rfl, rfl, hpl, hj, hN, rfl⟩ := hrel
      have HN : Hid (NumTo (xs.drop i) q acc) := hN
      have HPl : Hid (pl = 128 ^ q) := hpl
      have HJ : Hid (j = i + q) := hj
      have hjl : j ≤ xs.length := by have := hN.len; rw [List.length_drop] at this; omega
      have q10 : (q : Int) < 10 := by omega
      by_cases hlt : j < xs.length
      · obtain ⟨x, hx⟩ : ∃ x, xs[j]? = some x := ⟨_, List.getElem?_eq_getElem hlt⟩
        have hxd : (xs.drop i)[q]? = some x := by rw [List.getElem?_drop, ← hj]; exact hx
        have c0 : ∀ o1 o2, ((w.alloc o1).alloc o2).cell? ⟨b, off + j, none⟩ = some (ub x) := fun o1 o2 => by
          have hbb : Below w.heap.size w ((w.alloc o1).alloc o2) := ((Below.refl _ _).alloc (Nat.le_refl _) _).alloc (by simp) _
          rw [hbb.cell (p := ⟨b, off + j, none⟩) hb]
          exact HX.out j x hx
        have HXd : Hid ((xs.drop i)[q]? = some x) := hxd
        obtain ⟨y, hy⟩ : ∃ y : Nat, x.toNat = y := ⟨_, rfl⟩
        have hy2 : y < 256 := by rw [← hy]; exact u8lt x
        have HY : Hid (x.toNat = y) := hy
        rw [show ub x = Value.int .u8 (y : Int) by rw [← hy]] at c0
        have z1 : ¬ (xs.length : Int) ≤ (j : Int) := by omega
        have z0 : (j : Int) < (xs.length : Int) := by omega
        clear hx hxd hpl hj hN hy
        by_cases h9 : q = 9 ∧ 1 < y
        · obtain ⟨rfl, hy1⟩ := h9
          have z3 : (1 : Int) < (y : Int) := by omega
          have HF : Hid (getNum (xs.drop i) = none) := HN.out.great HXd.out (by rw [HY.out]; exact hy1)
          have hj1 : j + 1 ≤ xs.length := hlt
          go_wp2_with fail
          exact bodyPost_ret (v := .tuple #[rdV b off cap xs.length (j + 1) true, .int .u64 0]) (by simp [results, Tryd.results29, go_sem]) rfl ⟨j + 1, true, 0, rfl, ⟨hj1, by omega, .inl ⟨rfl, HF.out⟩⟩, HBel.out _ _⟩
        · have hj1 : j + 1 ≤ xs.length := hlt
          have hp9 : pl ≤ 9223372036854775808 := by rw [HPl.out]; exact pow9 hq
          have hbd : acc + y % 128 * pl < 2 ^ 64 := by rw [HPl.out]; exact HN.out.bound hq (fun h => by omega)
          obtain ⟨P, hP⟩ : ∃ P : Nat, P = y % 128 * pl := ⟨_, rfl⟩
          have e1 : (y : Int) % 128 * (pl : Int) = (P : Int) := by rw [hP]; push_cast; rfl
          have e2 : IntKind.u64.wrap ((y : Int) % 128 * (pl : Int)) = (P : Int) := by rw [e1]; exact wrapU (by omega) (by omega)
          have e3 : IntKind.u64.wrap ((acc : Int) + (P : Int)) = ((acc + P : Nat) : Int) := by rw [wrapU (by omega) (by omega)]; omega
          have HE : Hid (IntKind.u64.wrap ((acc : Int) + IntKind.u64.wrap ((y : Int) % 128 * (pl : Int))) = ((acc + P : Nat) : Int)) := by rw [e2, e3]; exact rfl
          have HP : Hid (acc + P = acc + x.toNat % 128 * 128 ^ q) := by rw [hP, HPl.out, HY.out]; exact rfl
          have hbd2 : acc + P < 2 ^ 64 := by omega
          clear hP e1 e2 e3 hbd
          by_cases h8 : y < 128
          · have z8 : (y : Int) < 128 := by omega
            obtain ⟨L1, L2⟩ := HN.out.last HXd.out (by rw [HY.out]; exact h8) hq (fun h => by rw [HY.out]; omega)
            rw [HY.out] at L1 L2
            have HL : Hid ((0 < q ∧ y = 0 → getNum (xs.drop i) = none) ∧ (¬ (0 < q ∧ y = 0) → getNum (xs.drop i) = some (acc + P, xs.drop (j + 1)))) := by
              refine ⟨L1, fun h => ?_⟩
              rw [(L2 h).1, HP.out, HY.out, List.drop_drop, HJ.out, Nat.add_assoc]
            clear L1 L2
            have z9 : ¬ ((q : Int) = 9 ∧ (1 : Int) < (y : Int)) := by omega
            by_cases hz : 0 < q ∧ y = 0
            · have HZ : Hid (getNum (xs.drop i) = none) := HL.out.1 hz
              obtain ⟨hz1, rfl⟩ := hz
              have z10 : (0 : Int) < (q : Int) := by omega
              clear HL
              go_wp2_with fail
              all_goals exact bodyPost_ret (v := .tuple #[rdV b off cap xs.length (j + 1) true, .int .u64 (acc : Int)]) (by simp [results, Tryd.results29, go_sem]) rfl ⟨j + 1, true, acc, rfl, ⟨hj1, by omega, .inl ⟨rfl, HZ.out⟩⟩, HBel.out _ _⟩
            · have HZ : Hid (getNum (xs.drop i) = some (acc + P, xs.drop (j + 1))) := HL.out.2 hz
              clear HL
              by_cases hy0 : y = 0
              · obtain rfl : q = 0 := by omega
                have hac : acc = 0 := by have := HN.out.lt; simp at this; exact this
                have hP0 : P = 0 := by have := HP.out; rw [HY.out, hy0] at this; omega
                subst hy0 hac hP0
                clear HE
                go_wp2_with fail
                all_goals exact bodyPost_ret (v := .tuple #[rdV b off cap xs.length (j + 1) false, .int .u64 0]) (by simp [results, Tryd.results29, go_sem]) rfl ⟨j + 1, false, 0, rfl, ⟨hj1, by omega, .inr ⟨rfl, HZ.out⟩⟩, HBel.out _ _⟩
              · have zy : ¬ (y : Int) = 0 := by omega
                by_cases hq9 : q = 9
                · subst hq9
                  have z11 : ¬ (1 : Int) < (y : Int) := by omega
                  go_wp2_with fail
                  all_goals exact bodyPost_ret (v := .tuple #[rdV b off cap xs.length (j + 1) false, .int .u64 ((acc + P : Nat) : Int)]) (by simp [results, Tryd.results29, go_sem, HE.out]) rfl ⟨j + 1, false, acc + P, rfl, ⟨hj1, hbd2, .inr ⟨rfl, HZ.out⟩⟩, HBel.out _ _⟩
                · have z11 : ¬ (q : Int) = 9 := by omega
                  go_wp2_with fail
                  all_goals exact bodyPost_ret (v := .tuple #[rdV b off cap xs.length (j + 1) false, .int .u64 ((acc + P : Nat) : Int)]) (by simp [results, Tryd.results29, go_sem, HE.out]) rfl ⟨j + 1, false, acc + P, rfl, ⟨hj1, hbd2, .inr ⟨rfl, HZ.out⟩⟩, HBel.out _ _⟩
          · have z8 : ¬ (y : Int) < 128 := by omega
            have hq9 : ¬ (q : Int) = 9 := by omega
            have HNm := HN.out.more HXd.out (by rw [HY.out]; exact h8)
            rw [← HP.out] at HNm
            have HNm2 : Hid (NumTo (xs.drop i) (q + 1) (acc + P)) := HNm
            have e4 : IntKind.u64.wrap ((pl : Int) * 128) = ((pl * 128 : Nat) : Int) := by
              have : pl ≤ 72057594037927936 := by rw [HPl.out]; exact pow8 (by omega)
              rw [wrapU (by omega) (by omega)]; omega
            have HE4 : Hid (IntKind.u64.wrap ((pl : Int) * 128) = ((pl * 128 : Nat) : Int)) := e4
            clear HNm e4
            go_wp2_with fail
            exact ⟨⟨q + 1, acc + P, pl * 128, j + 1, by omega, by rw [HE.out], by rw [HE4.out], by go_num, by rw [HPl.out, Nat.pow_succ], by rw [HJ.out]; omega, HNm2.out, by go_num⟩, by simp [intOf]; omega⟩
      · have z1 : (xs.length : Int) ≤ (j : Int) := by omega
        have HF : Hid (getNum (xs.drop i) = none) := HN.out.none (by rw [List.length_drop]; have := HJ.out; omega)
        clear hpl hj hN
        go_wp2_with fail
        exact bodyPost_ret (v := .tuple #[rdV b off cap xs.length j true, .int .u64 0]) (by simp [results, Tryd.results29, go_sem]) rfl ⟨j, true, 0, rfl, ⟨hjl, by omega, .inl ⟨rfl, HF.out⟩⟩, HBel.out _ _⟩
end Go.Proofs.YtodaanmbbgdclabDoor

/-
  spec.l2GetStr, spec.l2GetFixed.
-/
namespace Go.Proofs.YtodaanmbbgdclabDoor
open Go.ChangeShapes Go.WideShapes Go.ChangeAt Go.RowKit Go.Deep
set_option linter.unusedVariables false
set_option linter.unusedSimpArgs false
set_option maxRecDepth 100000

theorem bytes_of_bys {w : World} {b off : Nat} {xs : List UInt8} (h : BysAt w b off xs) : Lib.Bytes w b off ⟨xs.toArray⟩ := by
  intro i hi
  have hi' : i < xs.length := by
    have h2 : (⟨xs.toArray⟩ : ByteArray).size = xs.length := by show xs.toArray.size = _; simp
    omega
  rw [h i xs[i] (List.getElem?_eq_getElem hi')]
  rfl
/-- A string read. -/
def GotStr (xs : List UInt8) (i : Nat) (bad : Bool) (i' : Nat) (bad' : Bool) (s : ByteArray) : Prop :=
  i' ≤ xs.length ∧ s.size ≤ xs.length ∧ ((bad' = true ∧ (rd xs i bad).bind getStr = none) ∨ (bad' = false ∧ (rd xs i bad).bind getStr = some (bl s, xs.drop i')))
def StrPost (w : World) (b off cap : Nat) (xs : List UInt8) (i : Nat) (bad : Bool) (r : Ending) (w' : World) : Prop :=
  ∃ (i' : Nat) (bad' : Bool) (s : ByteArray), r = .returned (.tuple #[rdV b off cap xs.length i' bad', .string s]) ∧ GotStr xs i bad i' bad' s ∧ Below w.heap.size w w'
theorem gotStr_bad {xs : List UInt8} {i : Nat} {bad : Bool} {i1 n : Nat} (h : GotNum xs i bad i1 true n) : (rd xs i bad).bind getStr = none := by
  rcases h.2.2 with ⟨_, q⟩ | ⟨q, _⟩
  · cases hr : rd xs i bad with
    | none => rfl
    | some ys =>
      rw [hr] at q
      simp only [Option.bind_some] at q ⊢
      unfold getStr
      rw [q]
  · cases q
theorem gotStr_of {xs : List UInt8} {i : Nat} {bad : Bool} {i1 n : Nat} (h : GotNum xs i bad i1 false n) : (rd xs i bad).bind getStr = if n ≤ (xs.drop i1).length then some ((xs.drop i1).take n, (xs.drop i1).drop n) else none := by
  rcases h.2.2 with ⟨q, _⟩ | ⟨_, q⟩
  · cases q
  · cases hr : rd xs i bad with
    | none => rw [hr] at q; cases q
    | some ys =>
      rw [hr] at q
      simp only [Option.bind_some] at q ⊢
      unfold getStr
      rw [q]

set_option maxHeartbeats 8000000 in
theorem l2GetStr_core (b off cap : Nat) (xs : List UInt8) (i : Nat) (bad : Bool) (w : World) (hx : BysAt w b off xs) (hb : b < w.heap.size) (hlen : xs.length ≤ 2 ^ 30) (hcap : xs.length ≤ cap) (hi : i ≤ xs.length) :
    Calls Tryd.prog 30 #[rdV b off cap xs.length i bad] w fun r w' => StrPost w b off cap xs i bad r w' := by
  obtain ⟨W, hW⟩ : ∃ W : World, W = (w.alloc (Obj.cells #[.slice (some ⟨b, off, none⟩) xs.length cap, .int .i64 (i : Int), .bool bad] 74)).alloc (Obj.cells #[.slice none 0 0, .int .i64 0, .bool false] 74) := ⟨_, rfl⟩
  have hbW : Below w.heap.size w W := by rw [hW]; exact ((Below.refl _ _).alloc (Nat.le_refl _) _).alloc (by simp) _
  have hzW : W.heap.size = w.heap.size + 2 := by rw [hW]; simp
  have HBx : Hid (BoxAt W w.heap.size 74 3 w.heap.size [.slice (some ⟨b, off, none⟩) xs.length cap, .int .i64 (i : Int), .bool bad] ∧ BoxAt W w.heap.size 74 3 (w.heap.size + 1) [.slice none 0 0, .int .i64 0, .bool false]) := by
    rw [hW]
    refine ⟨(boxAt_new w _ (Nat.le_refl _) rfl).below ((Below.refl _ _).alloc (Nat.le_refl _) _), ?_⟩
    have := boxAt_new (w.alloc (Obj.cells #[.slice (some ⟨b, off, none⟩) xs.length cap, .int .i64 (i : Int), .bool bad] 74)) (base := w.heap.size) (t := 74) (sz := 3) #[.slice none 0 0, .int .i64 0, .bool false] (by simp) rfl
    simpa using this
  have HX : Hid (BysAt w b off xs ∧ BysAt W b off xs) := ⟨hx, hx.below hbW hb⟩
  clear hx
  go_enter Tryd.func30, Tryd.ntmps30
  go_upto_region 2 with fail
  rw [← hW]
  clear hW
  have q0 := HBx.out.1.cell (j := 0) rfl
  have q1 := HBx.out.1.cell (j := 1) rfl
  have q2 := HBx.out.1.cell (j := 2) rfl
  go_wp2_with fail
  clear q0 q1 q2
  refine (l2GetNum_core b off cap xs i bad W HX.out.2 (by omega) hlen hi).mono ?_
  rintro r w1 ⟨i1, bad1, n, rfl, hGN, hb1⟩
  have s1 := hb1.size
  have hi1 := hGN.1
  have hn1 := hGN.2.1
  have HGN : Hid (GotNum xs i bad i1 bad1 n) := hGN
  have HB1 : Hid (BoxAt w1 w.heap.size 74 3 w.heap.size [.slice (some ⟨b, off, none⟩) xs.length cap, .int .i64 (i : Int), .bool bad] ∧ BoxAt w1 w.heap.size 74 3 (w.heap.size + 1) [.slice none 0 0, .int .i64 0, .bool false]) := ⟨HBx.out.1.below hb1, HBx.out.2.below hb1⟩
  have k1 : Below w.heap.size w w1 := hbW.trans (hb1.mono (by omega))
  have HX1 : Hid (BysAt w1 b off xs) := HX.out.2.below hb1 (by omega)
  clear hGN hb1
  have f0 := HB1.out.1.frozen 0
  have f1 := HB1.out.1.frozen 1
  have f2 := HB1.out.1.frozen 2
  have q0 := HB1.out.1.cell (j := 0) rfl
  have q1 := HB1.out.1.cell (j := 1) rfl
  have q2 := HB1.out.1.cell (j := 2) rfl
  obtain ⟨W2, hW2⟩ : ∃ W2 : World, W2 = set3 w1 w.heap.size (.slice (some ⟨b, off, none⟩) xs.length cap) (.int .i64 (i1 : Int)) (.bool bad1) := ⟨_, rfl⟩
  have HB2 : Hid (BoxAt W2 w.heap.size 74 3 w.heap.size [.slice (some ⟨b, off, none⟩) xs.length cap, .int .i64 (i1 : Int), .bool bad1] ∧ BoxAt W2 w.heap.size 74 3 (w.heap.size + 1) [.slice none 0 0, .int .i64 0, .bool false]) := by
    rw [hW2]; exact ⟨HB1.out.1.set3 _ _ _, HB1.out.2.beside3 (by omega) _ _ _⟩
  have k2 : Below w.heap.size w W2 := by rw [hW2]; exact below_set3 k1 (Nat.le_refl _) _ _ _
  unfold set3 at hW2
  go_upto_region 3 with fail
  rw [← hW2]
  clear hW2 f0 f1 f2 q0 q1 q2
  have q0 := HB2.out.1.cell (j := 0) rfl
  have q1 := HB2.out.1.cell (j := 1) rfl
  have q2 := HB2.out.1.cell (j := 2) rfl
  have f1 := HB2.out.1.frozen 1
  have f2 := HB2.out.1.frozen 2
  have hbadcase : ∀ (W3 : World), W3 = W2.setCell ⟨w.heap.size, 2, none⟩ (.bool true) → (BoxAt W3 w.heap.size 74 3 w.heap.size [.slice (some ⟨b, off, none⟩) xs.length cap, .int .i64 (i1 : Int), .bool true] ∧ BoxAt W3 w.heap.size 74 3 (w.heap.size + 1) [.slice none 0 0, .int .i64 0, .bool false]) ∧ Below w.heap.size w W3 := by
    intro W3 h
    rw [h]
    exact ⟨⟨HB2.out.1.set 2 (.bool true), HB2.out.2.beside (by omega) _ _⟩, below_set k2 (Nat.le_refl _) _ _⟩
  have HBC : Hid (∀ (W3 : World), W3 = W2.setCell ⟨w.heap.size, 2, none⟩ (.bool true) → (BoxAt W3 w.heap.size 74 3 w.heap.size [.slice (some ⟨b, off, none⟩) xs.length cap, .int .i64 (i1 : Int), .bool true] ∧ BoxAt W3 w.heap.size 74 3 (w.heap.size + 1) [.slice none 0 0, .int .i64 0, .bool false]) ∧ Below w.heap.size w W3) := hbadcase
  clear hbadcase
  by_cases hbd : bad1 = true ∨ xs.length - i1 < n
  · have HN : Hid ((rd xs i bad).bind getStr = none) := by
      show (rd xs i bad).bind getStr = none
      cases bad1 with
      | true => exact gotStr_bad HGN.out
      | false =>
        rw [gotStr_of HGN.out, if_neg]
        rw [List.length_drop]
        rcases hbd with h | h
        · cases h
        · omega
    obtain ⟨W3, hW3⟩ : ∃ W3 : World, W3 = W2.setCell ⟨w.heap.size, 2, none⟩ (.bool true) := ⟨_, rfl⟩
    obtain ⟨hB3, k3⟩ := HBC.out W3 hW3
    have HB3 : Hid (BoxAt W3 w.heap.size 74 3 w.heap.size [.slice (some ⟨b, off, none⟩) xs.length cap, .int .i64 (i1 : Int), .bool true] ∧ BoxAt W3 w.heap.size 74 3 (w.heap.size + 1) [.slice none 0 0, .int .i64 0, .bool false]) := hB3
    clear hB3
    cases bad1 with
    | true =>
      go_upto_region 5 with fail
      rw [← hW3]
      clear hW3 q0 q1 q2 f1 f2
      have f0 := HB3.out.2.frozen 0
      have f1 := HB3.out.2.frozen 1
      have f2 := HB3.out.2.frozen 2
      have l0 := HB3.out.2.cell (j := 0) rfl
      have l1 := HB3.out.2.cell (j := 1) rfl
      have l2 := HB3.out.2.cell (j := 2) rfl
      have q0 := HB3.out.1.cell (j := 0) rfl
      have q1 := HB3.out.1.cell (j := 1) rfl
      have q2 := HB3.out.1.cell (j := 2) rfl
      obtain ⟨W4, hW4⟩ : ∃ W4 : World, W4 = set3 W3 (w.heap.size + 1) (.slice (some ⟨b, off, none⟩) xs.length cap) (.int .i64 (i1 : Int)) (.bool true) := ⟨_, rfl⟩
      have hB4 : BoxAt W4 w.heap.size 74 3 (w.heap.size + 1) [.slice (some ⟨b, off, none⟩) xs.length cap, .int .i64 (i1 : Int), .bool true] := by rw [hW4]; exact HB3.out.2.set3 _ _ _
      have k4 : Below w.heap.size w W4 := by rw [hW4]; exact below_set3 k3 (by omega) _ _ _
      have p0 := hB4.cell (j := 0) rfl
      have p1 := hB4.cell (j := 1) rfl
      have p2 := hB4.cell (j := 2) rfl
      unfold set3 at hW4
      go_wp2_with fail
      rw [← hW4]
      exact bodyPost_ret (v := .tuple #[rdV b off cap xs.length i1 true, .string ⟨#[]⟩]) (by simp [results, Tryd.results30, go_sem, p0, p1, p2]) rfl ⟨i1, true, ⟨#[]⟩, rfl, ⟨hi1, Nat.zero_le _, .inl ⟨rfl, HN.out⟩⟩, k4⟩
    | false =>
      have z1 : (xs.length : Int) - (i1 : Int) < (n : Int) := by
        rcases hbd with h | h
        · cases h
        · omega
      go_upto_region 5 with fail
      rw [← hW3]
      clear hW3 q0 q1 q2 f1 f2
      have f0 := HB3.out.2.frozen 0
      have f1 := HB3.out.2.frozen 1
      have f2 := HB3.out.2.frozen 2
      have l0 := HB3.out.2.cell (j := 0) rfl
      have l1 := HB3.out.2.cell (j := 1) rfl
      have l2 := HB3.out.2.cell (j := 2) rfl
      have q0 := HB3.out.1.cell (j := 0) rfl
      have q1 := HB3.out.1.cell (j := 1) rfl
      have q2 := HB3.out.1.cell (j := 2) rfl
      obtain ⟨W4, hW4⟩ : ∃ W4 : World, W4 = set3 W3 (w.heap.size + 1) (.slice (some ⟨b, off, none⟩) xs.length cap) (.int .i64 (i1 : Int)) (.bool true) := ⟨_, rfl⟩
      have hB4 : BoxAt W4 w.heap.size 74 3 (w.heap.size + 1) [.slice (some ⟨b, off, none⟩) xs.length cap, .int .i64 (i1 : Int), .bool true] := by rw [hW4]; exact HB3.out.2.set3 _ _ _
      have k4 : Below w.heap.size w W4 := by rw [hW4]; exact below_set3 k3 (by omega) _ _ _
      have p0 := hB4.cell (j := 0) rfl
      have p1 := hB4.cell (j := 1) rfl
      have p2 := hB4.cell (j := 2) rfl
      unfold set3 at hW4
      go_wp2_with fail
      rw [← hW4]
      exact bodyPost_ret (v := .tuple #[rdV b off cap xs.length i1 true, .string ⟨#[]⟩]) (by simp [results, Tryd.results30, go_sem, p0, p1, p2]) rfl ⟨i1, true, ⟨#[]⟩, rfl, ⟨hi1, Nat.zero_le _, .inl ⟨rfl, HN.out⟩⟩, k4⟩
  · have hb1 : bad1 = false := by
      cases bad1 with
      | true => exact absurd (.inl rfl) hbd
      | false => rfl
    subst hb1
    have hnl : n ≤ xs.length - i1 := by
      rcases Nat.lt_or_ge (xs.length - i1) n with h | h
      · exact absurd (.inr h) hbd
      · exact h
    have z1 : ¬ (xs.length : Int) - (i1 : Int) < (n : Int) := by omega
    clear hbd HBC
    have HGs : Hid ((rd xs i bad).bind getStr = some ((xs.drop i1).take n, xs.drop (i1 + n))) := by
      show (rd xs i bad).bind getStr = _
      rw [gotStr_of HGN.out, if_pos (by rw [List.length_drop]; exact hnl), List.drop_drop]
    have HBy : Hid (Lib.Bytes W2 b off ⟨xs.toArray⟩) := bytes_of_bys (fun j x hj => by rw [k2.cell (p := ⟨b, off + j, none⟩) hb]; exact HX.out.1 j x hj)
    have hsz : (⟨xs.toArray⟩ : ByteArray).size = xs.length := by show xs.toArray.size = _; simp
    obtain ⟨W3, hW3⟩ : ∃ W3 : World, W3 = W2.setCell ⟨w.heap.size, 1, none⟩ (.int .i64 ((i1 : Int) + (n : Int))) := ⟨_, rfl⟩
    have HB3 : Hid (BoxAt W3 w.heap.size 74 3 w.heap.size [.slice (some ⟨b, off, none⟩) xs.length cap, .int .i64 ((i1 : Int) + (n : Int)), .bool false] ∧ BoxAt W3 w.heap.size 74 3 (w.heap.size + 1) [.slice none 0 0, .int .i64 0, .bool false]) := by
      rw [hW3]; exact ⟨HB2.out.1.set 1 _, HB2.out.2.beside (by omega) _ _⟩
    have k3 : Below w.heap.size w W3 := by rw [hW3]; exact below_set k2 (Nat.le_refl _) _ _
    have z2 : (i1 : Int) + (n : Int) ≤ (cap : Int) := by omega
    have z3 : (i1 : Int) ≤ (i1 : Int) + (n : Int) := by omega
    by_cases hci : cap = i1
    · obtain rfl : n = 0 := by omega
      have hcv := Lib.run_convert_window (P := Tryd.prog) W2 22 5 9 Tryd.underlying22 Tryd.underlying5 Tryd.underlying9 b off ⟨xs.toArray⟩ HBy.out 0 0 0 (by omega)
      rw [Nat.add_zero, Nat.zero_add] at hcv
      obtain ⟨st, hstd⟩ : ∃ st : ByteArray, st = (⟨xs.toArray⟩ : ByteArray).extract 0 0 := ⟨_, rfl⟩
      have hst : st.size ≤ xs.length := by rw [hstd, ByteArray.size_extract]; omega
      have HSt : Hid ((rd xs i bad).bind getStr = some (bl st, xs.drop (i1 + 0))) := by
        show (rd xs i bad).bind getStr = _
        rw [HGs.out]
        have : bl st = [] := List.length_eq_zero_iff.1 (by rw [bl_len, hstd, ByteArray.size_extract]; omega)
        rw [this]; rfl
      rw [← hstd] at hcv
      subst hci
      clear hstd HB3 hW3 k3
      obtain ⟨W5, hW5⟩ : ∃ W5 : World, W5 = W2.setCell ⟨w.heap.size, 1, none⟩ (.int .i64 (cap : Int)) := ⟨_, rfl⟩
      have HB5 : Hid (BoxAt W5 w.heap.size 74 3 w.heap.size [.slice (some ⟨b, off, none⟩) xs.length cap, .int .i64 (cap : Int), .bool false] ∧ BoxAt W5 w.heap.size 74 3 (w.heap.size + 1) [.slice none 0 0, .int .i64 0, .bool false]) := by
        rw [hW5]; exact ⟨HB2.out.1.set 1 _, HB2.out.2.beside (by omega) _ _⟩
      have k5 : Below w.heap.size w W5 := by rw [hW5]; exact below_set k2 (Nat.le_refl _) _ _
      go_upto_region 8 with fail
      rw [← hW5]
      clear hW5 q0 q1 q2 f1 f2 hcv
      have f0 := HB5.out.2.frozen 0
      have g1 := HB5.out.2.frozen 1
      have g2 := HB5.out.2.frozen 2
      have l0 := HB5.out.2.cell (j := 0) rfl
      have l1 := HB5.out.2.cell (j := 1) rfl
      have l2 := HB5.out.2.cell (j := 2) rfl
      have q0 := HB5.out.1.cell (j := 0) rfl
      have q1 := HB5.out.1.cell (j := 1) rfl
      have q2 := HB5.out.1.cell (j := 2) rfl
      obtain ⟨W4, hW4⟩ : ∃ W4 : World, W4 = set3 W5 (w.heap.size + 1) (.slice (some ⟨b, off, none⟩) xs.length cap) (.int .i64 (cap : Int)) (.bool false) := ⟨_, rfl⟩
      have hB4 : BoxAt W4 w.heap.size 74 3 (w.heap.size + 1) [.slice (some ⟨b, off, none⟩) xs.length cap, .int .i64 (cap : Int), .bool false] := by rw [hW4]; exact HB5.out.2.set3 _ _ _
      have k4 : Below w.heap.size w W4 := by rw [hW4]; exact below_set3 k5 (by omega) _ _ _
      have p0 := hB4.cell (j := 0) rfl
      have p1 := hB4.cell (j := 1) rfl
      have p2 := hB4.cell (j := 2) rfl
      unfold set3 at hW4
      go_wp2_with fail
      rw [← hW4]
      exact bodyPost_ret (v := .tuple #[rdV b off cap xs.length cap false, .string st]) (by simp [results, Tryd.results30, go_sem, p0, p1, p2]) rfl ⟨cap, false, st, rfl, ⟨hi1, hst, .inr ⟨rfl, HSt.out⟩⟩, k4⟩
    · have hcv := Lib.run_convert_window (P := Tryd.prog) W2 22 5 9 Tryd.underlying22 Tryd.underlying5 Tryd.underlying9 b off ⟨xs.toArray⟩ HBy.out i1 n (cap - i1) (by omega)
      obtain ⟨st, hstd⟩ : ∃ st : ByteArray, st = (⟨xs.toArray⟩ : ByteArray).extract i1 (i1 + n) := ⟨_, rfl⟩
      have hst : st.size ≤ xs.length := by rw [hstd, ByteArray.size_extract]; omega
      have HSt : Hid ((rd xs i bad).bind getStr = some (bl st, xs.drop (i1 + n))) := by
        show (rd xs i bad).bind getStr = _
        rw [HGs.out]
        have : bl st = (xs.drop i1).take n := by rw [hstd]; show ((⟨xs.toArray⟩ : ByteArray).extract i1 (i1 + n)).data.toList = _; rw [Lib.extract_data, Nat.add_sub_cancel_left]
        rw [this]
      rw [← hstd] at hcv
      clear hstd hsz
      go_upto_region 8 with fail
      rw [← hW3]
      clear hW3 q0 q1 q2 f1 f2 hcv
      have f0 := HB3.out.2.frozen 0
      have g1 := HB3.out.2.frozen 1
      have g2 := HB3.out.2.frozen 2
      have l0 := HB3.out.2.cell (j := 0) rfl
      have l1 := HB3.out.2.cell (j := 1) rfl
      have l2 := HB3.out.2.cell (j := 2) rfl
      have q0 := HB3.out.1.cell (j := 0) rfl
      have q1 := HB3.out.1.cell (j := 1) rfl
      have q2 := HB3.out.1.cell (j := 2) rfl
      obtain ⟨W4, hW4⟩ : ∃ W4 : World, W4 = set3 W3 (w.heap.size + 1) (.slice (some ⟨b, off, none⟩) xs.length cap) (.int .i64 ((i1 : Int) + (n : Int))) (.bool false) := ⟨_, rfl⟩
      have hB4 : BoxAt W4 w.heap.size 74 3 (w.heap.size + 1) [.slice (some ⟨b, off, none⟩) xs.length cap, .int .i64 ((i1 : Int) + (n : Int)), .bool false] := by rw [hW4]; exact HB3.out.2.set3 _ _ _
      have k4 : Below w.heap.size w W4 := by rw [hW4]; exact below_set3 k3 (by omega) _ _ _
      have p0 := hB4.cell (j := 0) rfl
      have p1 := hB4.cell (j := 1) rfl
      have p2 := hB4.cell (j := 2) rfl
      unfold set3 at hW4
      go_wp2_with fail
      rw [← hW4]
      exact bodyPost_ret (v := .tuple #[rdV b off cap xs.length (i1 + n) false, .string st]) (by simp [results, Tryd.results30, go_sem, p0, p1, p2]) rfl ⟨i1 + n, false, st, rfl, ⟨by omega, hst, .inr ⟨rfl, HSt.out⟩⟩, k4⟩

theorem below_drewN {B : Nat} {a w : World} (h : Below B a w) (q : Nat) : Below B a (w.drewN q) := by
  induction q with
  | zero => exact h
  | succ q ih => exact ih.drew
set_option maxHeartbeats 4000000 in
theorem l2GetFixed_core (b off cap : Nat) (xs : List UInt8) (i : Nat) (w : World) (hx : BysAt w b off xs) (hlen : xs.length ≤ 2 ^ 30) (hi : i + 4 ≤ xs.length) :
    Calls Tryd.prog 27 #[.slice (some ⟨b, off, none⟩) xs.length cap, .int .i64 (i : Int)] w fun r w' => r = .returned (.int .u32 (fixAt xs i : Int)) ∧ Below w.heap.size w w' := by
  have g : ∀ j, j < xs.length → w.cell? ⟨b, off + j, none⟩ = some (.int .u8 ((xs.getD j 0).toNat : Int)) := by
    intro j hj
    rw [hx j xs[j] (List.getElem?_eq_getElem hj), List.getD_eq_getElem?_getD, List.getElem?_eq_getElem hj]
    rfl
  have c0 := g i (by omega)
  have c1 := g (i + 1) (by omega)
  have c2 := g (i + 2) (by omega)
  have c3 := g (i + 3) (by omega)
  have HF : Hid (fixAt xs i = (xs.getD i 0).toNat + 256 * (xs.getD (i + 1) 0).toNat + 65536 * (xs.getD (i + 2) 0).toNat + 16777216 * (xs.getD (i + 3) 0).toNat) := rfl
  have b0 := u8lt (xs.getD i 0)
  have b1 := u8lt (xs.getD (i + 1) 0)
  have b2 := u8lt (xs.getD (i + 2) 0)
  have b3 := u8lt (xs.getD (i + 3) 0)
  obtain ⟨y0, hy0⟩ : ∃ y : Nat, (xs.getD i 0).toNat = y := ⟨_, rfl⟩
  obtain ⟨y1, hy1⟩ : ∃ y : Nat, (xs.getD (i + 1) 0).toNat = y := ⟨_, rfl⟩
  obtain ⟨y2, hy2⟩ : ∃ y : Nat, (xs.getD (i + 2) 0).toNat = y := ⟨_, rfl⟩
  obtain ⟨y3, hy3⟩ : ∃ y : Nat, (xs.getD (i + 3) 0).toNat = y := ⟨_, rfl⟩
  rw [hy0] at c0 b0 HF
  rw [hy1] at c1 b1 HF
  rw [hy2] at c2 b2 HF
  rw [hy3] at c3 b3 HF
  clear hy0 hy1 hy2 hy3 g hx
  rw [HF.out]
  clear HF
  obtain ⟨j1, hj1⟩ : ∃ j : Nat, j = i + 1 := ⟨_, rfl⟩
  obtain ⟨j2, hj2⟩ : ∃ j : Nat, j = i + 2 := ⟨_, rfl⟩
  obtain ⟨j3, hj3⟩ : ∃ j : Nat, j = i + 3 := ⟨_, rfl⟩
  rw [← hj1] at c1
  rw [← hj2] at c2
  rw [← hj3] at c3
  have e1 : (i : Int) + 1 = (j1 : Int) := by omega
  have e2 : (i : Int) + 2 = (j2 : Int) := by omega
  have e3 : (i : Int) + 3 = (j3 : Int) := by omega
  obtain ⟨N, hN⟩ : ∃ N : Nat, xs.length = N := ⟨_, rfl⟩
  rw [hN] at hi hlen ⊢
  clear hN
  go_enter Tryd.func27, Tryd.ntmps27
  go_upto_region 1 with fail
  have z0 : (i : Int) < (N : Int) := by omega
  have z1 : (j1 : Int) < (N : Int) := by omega
  have z2 : (j2 : Int) < (N : Int) := by omega
  have z3 : (j3 : Int) < (N : Int) := by omega
  clear hj1 hj2 hj3
  go_quiet (fail)
  go_wp2_with fail
  go_ret
  refine ⟨?_, ?_⟩
  · show Ending.returned (Value.int .u32 ((y0 : Int) + 256 * (y1 : Int) + 65536 * (y2 : Int) + 16777216 * (y3 : Int))) = _
    congr 2
  · exact below_drewN (Below.refl _ _) _
end Go.Proofs.YtodaanmbbgdclabDoor

/-
  The file of blocks (mathematics).
-/
namespace Go.Proofs.YtodaanmbbgdclabDoor
set_option linter.unusedVariables false
set_option linter.unusedSimpArgs false

/-- The first row of a block. -/
def row0 : List Ent → List UInt8
  | [] => []
  | e :: _ => bl e.row
def sumOf (xs : List UInt8) : List UInt8 := fixed (crc xs).toNat
theorem sumOf_len (xs : List UInt8) : (sumOf xs).length = 4 := rfl
def fblock (es : List Ent) : List UInt8 := body [] es ++ sumOf (body [] es)
def fblocks (bs : List (List Ent)) : List UInt8 := bs.flatMap fblock
def fone (es : List Ent) : List UInt8 := num (body [] es).length ++ num es.length ++ strB (row0 es)
def fones (bs : List (List Ent)) : List UInt8 := bs.flatMap fone
def findex (bs : List (List Ent)) : List UInt8 := num bs.length ++ fones bs
def headB : List UInt8 := [82, 85, 78, 49]
def fileM (bs : List (List Ent)) : List UInt8 := headB ++ fblocks bs ++ findex bs ++ sumOf (findex bs) ++ fixed (findex bs).length
theorem fblocks_snoc (bs : List (List Ent)) (es : List Ent) : fblocks (bs ++ [es]) = fblocks bs ++ body [] es ++ sumOf (body [] es) := by
  simp [fblocks, fblock]
theorem fones_snoc (bs : List (List Ent)) (es : List Ent) : fones (bs ++ [es]) = fones bs ++ num (body [] es).length ++ num es.length ++ strB (row0 es) := by
  simp [fones, fone]
/-- What a block may be. -/
structure OkB (es : List Ent) : Prop where
  vld : ∀ e ∈ es, e.vld = true
  ok : ∀ e ∈ es, e.ok
  ne : 0 < es.length
theorem OkB.ts {es : List Ent} (h : OkB es) : ∀ e ∈ es, e.ts.toNat < 2 ^ 64 := fun e he => by have := wf_u64 (h.ok e he).ts; omega
theorem row0_len {es : List Ent} (h : OkB es) : (row0 es).length ≤ 64 := by
  cases es with
  | nil => simp [row0]
  | cons e es => have := vld_parts (h.vld e (by simp)); simp only [row0, bl_len]; omega
theorem fblocks_len : ∀ (bs : List (List Ent)), (∀ es ∈ bs, OkB es) → (fblocks bs).length ≤ 500 * bs.flatten.length + 4 * bs.length
  | [], _ => by simp [fblocks]
  | es :: bs, h => by
    have h1 := body_len es [] (h es (by simp)).vld (h es (by simp)).ts
    have h2 := fblocks_len bs (fun x hx => h x (by simp [hx]))
    simp only [fblocks, List.flatMap_cons, List.length_append, fblock, sumOf_len, List.flatten_cons, List.length_cons] at h2 ⊢
    omega
theorem fone_len {es : List Ent} (h : OkB es) (hl : es.length ≤ 10000) : (fone es).length ≤ 100 := by
  have h1 := body_len es [] h.vld h.ts
  have l1 := num_len64 (n := (body [] es).length) (by omega)
  have l2 := num_len64 (n := es.length) (by omega)
  have l3 := row0_len h
  have l4 := strB_len (s := row0 es) (by omega)
  simp only [fone, List.length_append]
  omega
theorem fones_len : ∀ (bs : List (List Ent)), (∀ es ∈ bs, OkB es) → bs.flatten.length ≤ 10000 → (fones bs).length ≤ 100 * bs.length
  | [], _, _ => by simp [fones]
  | es :: bs, h, hl => by
    simp only [List.flatten_cons, List.length_append] at hl
    have h1 := fone_len (h es (by simp)) (by omega)
    have h2 := fones_len bs (fun x hx => h x (by simp [hx])) (by omega)
    simp only [fones, List.flatMap_cons, List.length_append, List.length_cons] at h2 ⊢
    omega
theorem flatten_take (bs : List (List Ent)) (k : Nat) : (bs.take k).flatten.length ≤ bs.flatten.length := by
  have : bs.flatten = (bs.take k).flatten ++ (bs.drop k).flatten := by rw [← List.flatten_append, List.take_append_drop]
  rw [this, List.length_append]
  omega
theorem flatten_mem {bs : List (List Ent)} {es : List Ent} (h : es ∈ bs) : es.length ≤ bs.flatten.length := by
  obtain ⟨s, t, rfl⟩ := List.append_of_mem h
  simp
  omega
theorem blocks_many : ∀ (bs : List (List Ent)), (∀ es ∈ bs, OkB es) → bs.length ≤ bs.flatten.length
  | [], _ => by simp
  | es :: bs, h => by
    have h1 := (h es (by simp)).ne
    have h2 := blocks_many bs (fun x hx => h x (by simp [hx]))
    simp only [List.flatten_cons, List.length_append, List.length_cons]
    omega
end Go.Proofs.YtodaanmbbgdclabDoor

/-
  The index of a file, read (mathematics).
-/
namespace Go.Proofs.YtodaanmbbgdclabDoor
set_option linter.unusedVariables false
set_option linter.unusedSimpArgs false

/-- The string of bytes. -/
def ba (l : List UInt8) : ByteArray := ⟨l.toArray⟩
theorem bl_ba (l : List UInt8) : bl (ba l) = l := by simp [bl, ba]
theorem ba_bl (s : ByteArray) : ba (bl s) = s := by
  apply ByteArray.ext
  simp [bl, ba]
/-- One block of the index. -/
structure Blk where
  fr : Nat
  til : Nat
  count : Nat
  row : ByteArray
def oneBlk (n lim p : Nat) (t : List UInt8) : Option (Blk × Nat × List UInt8) :=
  match getNum t with
  | none => none
  | some (size, t1) =>
    match getNum t1 with
    | none => none
    | some (count, t2) =>
      match getStr t2 with
      | none => none
      | some (row, t3) => if count < 1 ∨ 1000 < count ∨ n < size ∨ lim < p + size + 4 then none else some (⟨p, p + size, count, ba row⟩, p + size + 4, t3)
def getBlks (n lim : Nat) : Nat → Nat → List UInt8 → Option (List Blk × Nat × List UInt8)
  | 0, p, t => some ([], p, t)
  | k + 1, p, t =>
    match oneBlk n lim p t with
    | none => none
    | some (b, p1, t1) =>
      match getBlks n lim k p1 t1 with
      | none => none
      | some (l, p2, t2) => some (b :: l, p2, t2)
def pre (l : List Blk) (o : Option (List Blk × Nat × List UInt8)) : Option (List Blk × Nat × List UInt8) :=
  match o with
  | none => none
  | some (l', p, t) => some (l ++ l', p, t)
theorem pre_nil (o : Option (List Blk × Nat × List UInt8)) : pre [] o = o := by
  cases o with
  | none => rfl
  | some q => obtain ⟨l, p, t⟩ := q; rfl
/-- The blocks read so far and what follows. -/
def BlksTo (n lim K : Nat) (t0 : List UInt8) (k : Nat) (l : List Blk) (p : Nat) (t : List UInt8) : Prop := k ≤ K ∧ l.length = k ∧ getBlks n lim K 4 t0 = pre l (getBlks n lim (K - k) p t)
theorem blksTo_zero (n lim K : Nat) (t0 : List UInt8) : BlksTo n lim K t0 0 [] 4 t0 := ⟨Nat.zero_le _, rfl, by rw [pre_nil]; rfl⟩
theorem BlksTo.more {n lim K : Nat} {t0 : List UInt8} {k : Nat} {l : List Blk} {p : Nat} {t : List UInt8} (h : BlksTo n lim K t0 k l p t) (hk : k < K) {b : Blk} {p1 : Nat} {t1 : List UInt8} (ho : oneBlk n lim p t = some (b, p1, t1)) : BlksTo n lim K t0 (k + 1) (l ++ [b]) p1 t1 := by
  refine ⟨hk, by rw [List.length_append, h.2.1]; rfl, ?_⟩
  rw [h.2.2, show K - k = (K - (k + 1)) + 1 by omega, getBlks, ho]
  simp only []
  cases getBlks n lim (K - (k + 1)) p1 t1 with
  | none => rfl
  | some q => obtain ⟨l', p', t'⟩ := q; simp [pre]
theorem BlksTo.stop {n lim K : Nat} {t0 : List UInt8} {k : Nat} {l : List Blk} {p : Nat} {t : List UInt8} (h : BlksTo n lim K t0 k l p t) (hk : k < K) (ho : oneBlk n lim p t = none) : getBlks n lim K 4 t0 = none := by
  rw [h.2.2, show K - k = (K - (k + 1)) + 1 by omega, getBlks, ho]
  rfl
theorem BlksTo.done {n lim K : Nat} {t0 : List UInt8} {l : List Blk} {p : Nat} {t : List UInt8} (h : BlksTo n lim K t0 K l p t) : getBlks n lim K 4 t0 = some (l, p, t) := by
  rw [h.2.2, Nat.sub_self]
  simp [getBlks, pre]
def idxEnd (lim : Nat) (o : Option (List Blk × Nat × List UInt8)) : Int × List Blk :=
  match o with
  | none => (1, [])
  | some (l, p, t') => if t' ≠ [] ∨ p ≠ lim then (1, []) else (0, l)
/-- What l2Index answers. -/
def idxBody (n lim : Nat) (ix : List UInt8) : Int × List Blk :=
  match getNum ix with
  | none => (1, [])
  | some (k, t) => if 10000 < k then (1, []) else idxEnd lim (getBlks n lim k 4 t)
def idxM (b : List UInt8) : Int × List Blk :=
  if b.length < 13 ∨ b.take 4 ≠ headB then (1, []) else
  if b.length < fixAt b (b.length - 4) + 12 then (1, []) else
  if (crc ((b.drop (b.length - 8 - fixAt b (b.length - 4))).take (fixAt b (b.length - 4)))).toNat ≠ fixAt b (b.length - 8) then (2, []) else
  idxBody b.length (b.length - 8 - fixAt b (b.length - 4)) ((b.drop (b.length - 8 - fixAt b (b.length - 4))).take (fixAt b (b.length - 4)))
/-- Blocks of an index lie within the file. -/
def Blk.in (n : Nat) (b : Blk) : Prop := 4 ≤ b.fr ∧ b.fr ≤ b.til ∧ b.til + 4 ≤ n ∧ 1 ≤ b.count ∧ b.count ≤ 1000
theorem oneBlk_in {n lim p : Nat} {t : List UInt8} {b : Blk} {p1 : Nat} {t1 : List UInt8} (h : oneBlk n lim p t = some (b, p1, t1)) (hp : 4 ≤ p) : b.in lim ∧ p ≤ p1 ∧ p1 ≤ lim := by
  unfold oneBlk at h
  cases h1 : getNum t with
  | none => rw [h1] at h; cases h
  | some q =>
    obtain ⟨size, u1⟩ := q
    rw [h1] at h
    simp only [] at h
    cases h2 : getNum u1 with
    | none => rw [h2] at h; cases h
    | some q =>
      obtain ⟨count, u2⟩ := q
      rw [h2] at h
      simp only [] at h
      cases h3 : getStr u2 with
      | none => rw [h3] at h; cases h
      | some q =>
        obtain ⟨row, u3⟩ := q
        rw [h3] at h
        simp only [] at h
        split at h
        · cases h
        · simp only [Option.some.injEq, Prod.mk.injEq] at h
          obtain ⟨rfl, rfl, rfl⟩ := h
          refine ⟨⟨hp, ?_, ?_, ?_, ?_⟩, ?_, ?_⟩ <;> (try simp only []) <;> omega
theorem getBlks_in {n lim : Nat} : ∀ (k p : Nat) (t : List UInt8) (l : List Blk) (p1 : Nat) (t1 : List UInt8), getBlks n lim k p t = some (l, p1, t1) → 4 ≤ p → (∀ b ∈ l, b.in lim) ∧ l.length = k
  | 0, p, t, l, p1, t1, h, hp => by
    simp only [getBlks, Option.some.injEq, Prod.mk.injEq] at h
    obtain ⟨rfl, _, _⟩ := h
    exact ⟨fun b hb => by simp at hb, rfl⟩
  | k + 1, p, t, l, p1, t1, h, hp => by
    rw [getBlks] at h
    cases ho : oneBlk n lim p t with
    | none => rw [ho] at h; cases h
    | some q =>
      obtain ⟨b, p2, t2⟩ := q
      rw [ho] at h
      simp only [] at h
      obtain ⟨hb, hp2, _⟩ := oneBlk_in ho hp
      cases hg : getBlks n lim k p2 t2 with
      | none => rw [hg] at h; cases h
      | some q =>
        obtain ⟨l', p3, t3⟩ := q
        rw [hg] at h
        simp only [Option.some.injEq, Prod.mk.injEq] at h
        obtain ⟨rfl, _, _⟩ := h
        obtain ⟨h1, h2⟩ := getBlks_in k p2 t2 l' p3 t3 hg (by omega)
        refine ⟨fun x hx => ?_, by simp [h2]⟩
        rcases List.mem_cons.1 hx with rfl | hx
        · exact hb
        · exact h1 x hx
theorem idxM_in (b : List UInt8) : ∀ k ∈ (idxM b).2, k.in b.length := by
  intro k hk
  unfold idxM at hk
  split at hk
  · simp at hk
  split at hk
  · simp at hk
  split at hk
  · simp at hk
  unfold idxBody at hk
  split at hk
  · simp at hk
  · split at hk
    · simp at hk
    · unfold idxEnd at hk
      split at hk
      · simp at hk
      · next heq =>
        split at hk
        · simp at hk
        · obtain ⟨h1, h2, h3, h4, h5⟩ := (getBlks_in _ _ _ _ _ _ heq (Nat.le_refl _)).1 k hk
          exact ⟨h1, h2, by omega, h4, h5⟩
end Go.Proofs.YtodaanmbbgdclabDoor

/-
  The entries of a block, read (mathematics).
-/
namespace Go.Proofs.YtodaanmbbgdclabDoor
set_option linter.unusedVariables false
set_option linter.unusedSimpArgs false

def getEnt (before t : List UInt8) : Option (Ent × List UInt8) :=
  match getNum t with
  | none => none
  | some (n, t1) =>
    match getStr t1 with
    | none => none
    | some (rest, t2) =>
      if before.length < n then none else
      match getStr t2 with
      | none => none
      | some (fam, t3) =>
        match getStr t3 with
        | none => none
        | some (qual, t4) =>
          match getNum t4 with
          | none => none
          | some (ts, t5) =>
            match getNum t5 with
            | none => none
            | some (kind, t6) =>
              match getStr t6 with
              | none => none
              | some (val, t7) =>
                if 2 < kind ∨ ¬ shared before (before.take n ++ rest) = n ∨ (⟨ba (before.take n ++ rest), ba fam, ba qual, (ts : Int), (kind : Int), ba val⟩ : Ent).vld = false then none
                else some (⟨ba (before.take n ++ rest), ba fam, ba qual, (ts : Int), (kind : Int), ba val⟩, t7)
def getEnts : Nat → List UInt8 → List UInt8 → Option (List Ent × List UInt8)
  | 0, _, t => some ([], t)
  | k + 1, b, t =>
    match getEnt b t with
    | none => none
    | some (e, t1) =>
      match getEnts k (bl e.row) t1 with
      | none => none
      | some (l, t2) => some (e :: l, t2)
def preE (l : List Ent) (o : Option (List Ent × List UInt8)) : Option (List Ent × List UInt8) :=
  match o with
  | none => none
  | some (l', t) => some (l ++ l', t)
theorem preE_nil (o : Option (List Ent × List UInt8)) : preE [] o = o := by
  cases o with
  | none => rfl
  | some q => obtain ⟨l, t⟩ := q; rfl
/-- The entries read so far and what follows. -/
def EntsTo (K : Nat) (t0 : List UInt8) (k : Nat) (l : List Ent) (bf t : List UInt8) : Prop := k ≤ K ∧ l.length = k ∧ bf = lastRow [] l ∧ getEnts K [] t0 = preE l (getEnts (K - k) bf t)
theorem entsTo_zero (K : Nat) (t0 : List UInt8) : EntsTo K t0 0 [] [] t0 := ⟨Nat.zero_le _, rfl, rfl, by rw [preE_nil]; rfl⟩
theorem EntsTo.more {K : Nat} {t0 : List UInt8} {k : Nat} {l : List Ent} {bf t : List UInt8} (h : EntsTo K t0 k l bf t) (hk : k < K) {e : Ent} {t1 : List UInt8} (ho : getEnt bf t = some (e, t1)) : EntsTo K t0 (k + 1) (l ++ [e]) (bl e.row) t1 := by
  refine ⟨hk, by rw [List.length_append, h.2.1]; rfl, (lastRow_snoc _ _ _).symm, ?_⟩
  rw [h.2.2.2, show K - k = (K - (k + 1)) + 1 by omega, getEnts, ho]
  simp only []
  cases getEnts (K - (k + 1)) (bl e.row) t1 with
  | none => rfl
  | some q => obtain ⟨l', t'⟩ := q; simp [preE]
theorem EntsTo.stop {K : Nat} {t0 : List UInt8} {k : Nat} {l : List Ent} {bf t : List UInt8} (h : EntsTo K t0 k l bf t) (hk : k < K) (ho : getEnt bf t = none) : getEnts K [] t0 = none := by
  rw [h.2.2.2, show K - k = (K - (k + 1)) + 1 by omega, getEnts, ho]
  rfl
theorem EntsTo.done {K : Nat} {t0 : List UInt8} {l : List Ent} {bf t : List UInt8} (h : EntsTo K t0 K l bf t) : getEnts K [] t0 = some (l, t) := by
  rw [h.2.2.2, Nat.sub_self]
  simp [getEnts, preE]
/-- What is read fits its types. -/
theorem getEnt_ok {b t : List UInt8} {e : Ent} {t1 : List UInt8} (h : getEnt b t = some (e, t1)) : e.vld = true := by
  unfold getEnt at h
  repeat (split at h; · cases h)
  simp only [Option.some.injEq, Prod.mk.injEq] at h
  obtain ⟨rfl, rfl⟩ := h
  next hc =>
  rw [not_or, not_or] at hc
  simpa using hc.2.2
theorem getEnt_ent {b : List UInt8} {e : Ent} (hv : e.vld = true) (hok : e.ok) (t : List UInt8) : getEnt b (entB b e ++ t) = some (e, t) := by
  obtain ⟨v1, v2, v3, v4, v5, v6, v7, v8⟩ := vld_parts hv
  have hts := wf_u64 hok.ts
  have hs := shared_le b (bl e.row)
  have hs2 := hs.2
  rw [bl_len] at hs2
  have hrow : b.take (shared b (bl e.row)) ++ (bl e.row).drop (shared b (bl e.row)) = bl e.row := by rw [shared_take, List.take_append_drop]
  have e1 : ((e.ts.toNat : Nat) : Int) = e.ts := Int.toNat_of_nonneg hts.1
  have e2 : ((e.kind.toNat : Nat) : Int) = e.kind := Int.toNat_of_nonneg v7
  have he : (⟨ba (bl e.row), ba (bl e.fam), ba (bl e.qual), ((e.ts.toNat : Nat) : Int), ((e.kind.toNat : Nat) : Int), ba (bl e.val)⟩ : Ent) = e := by rw [ba_bl, ba_bl, ba_bl, ba_bl, e1, e2]
  unfold entB getEnt
  simp only [List.append_assoc]
  rw [getNum_num (by omega)]
  simp only []
  rw [getStr_str (by rw [List.length_drop, bl_len]; omega)]
  simp only []
  rw [if_neg (by omega), getStr_str (by rw [bl_len]; omega)]
  simp only []
  rw [getStr_str (by rw [bl_len]; omega)]
  simp only []
  rw [getNum_num (by omega)]
  simp only []
  rw [getNum_num (by omega)]
  simp only []
  rw [getStr_str (by rw [bl_len]; omega)]
  simp only []
  rw [hrow, he, if_neg]
  rintro (h | h | h)
  · omega
  · exact h rfl
  · rw [hv] at h; cases h
theorem getEnts_body : ∀ (es : List Ent) (b t : List UInt8), (∀ e ∈ es, e.vld = true) → (∀ e ∈ es, e.ok) → getEnts es.length b (body b es ++ t) = some (es, t)
  | [], b, t, _, _ => by simp [getEnts, body]
  | e :: es, b, t, hv, hok => by
    rw [List.length_cons, getEnts, body, List.append_assoc, getEnt_ent (hv e (by simp)) (hok e (by simp))]
    simp only []
    rw [getEnts_body es (bl e.row) t (fun x hx => hv x (by simp [hx])) (fun x hx => hok x (by simp [hx]))]
/-- What l2Entries answers. -/
def entEnd (row : List UInt8) (o : Option (List Ent × List UInt8)) : Int × List Ent :=
  match o with
  | none => (3, [])
  | some (es, t) => if t ≠ [] ∨ row0 es ≠ row then (3, []) else (0, es)
def blkM (b : List UInt8) (k : Blk) : Int × List Ent :=
  if (crc ((b.drop k.fr).take (k.til - k.fr))).toNat ≠ fixAt b k.til then (2, []) else entEnd (bl k.row) (getEnts k.count [] ((b.drop k.fr).take (k.til - k.fr)))
/-- The blocks one behind the other, up to the first error. -/
def decBlks (b : List UInt8) : List Blk → Int × List Ent
  | [] => (0, [])
  | k :: ks => if (blkM b k).1 ≠ 0 then ((blkM b k).1, []) else if (decBlks b ks).1 ≠ 0 then ((decBlks b ks).1, []) else (0, (blkM b k).2 ++ (decBlks b ks).2)
open Classical in
noncomputable def decM (b : List UInt8) : Int × List Ent :=
  if (idxM b).1 ≠ 0 then ((idxM b).1, []) else if (decBlks b (idxM b).2).1 ≠ 0 then ((decBlks b (idxM b).2).1, []) else if GoodR (decBlks b (idxM b).2).2 then (0, (decBlks b (idxM b).2).2) else (3, [])
end Go.Proofs.YtodaanmbbgdclabDoor

/-
  (*impl.byteReader).text, row.
-/
namespace Go.Proofs.YtodaanmbbgdclabDoor
open Go.ChangeShapes Go.WideShapes Go.ChangeAt Go.RowKit Go.Deep
set_option linter.unusedVariables false
set_option linter.unusedSimpArgs false
set_option maxRecDepth 100000

/-- What reading a text leaves. -/
def StrP (w : World) (base g b : Nat) (xs : List UInt8) (code : Int) (e : Ending) (w' : World) : Prop :=
  Chg (fun k => k = g) w w' ∧ ((∃ (s : ByteArray) (t : List UInt8), getStr xs = some (bl s, t) ∧ e = .returned (.string s) ∧ s.size + t.length ≤ xs.length ∧ RdE w' base g b t code) ∨ (getStr xs = none ∧ e = Corr code))
set_option maxHeartbeats 2000000 in
theorem text_core (base g b : Nat) (xs : List UInt8) (code : Int) (w : World) (h : RdE w base g b xs code) :
    Calls Tryd.prog 62 #[.pointer (some ⟨g, 0, none⟩)] w fun e w' => StrP w base g b xs code e w' := by
  have HR : Hid (RdE w base g b xs code) := h
  clear h
  go_enter Tryd.func62, Tryd.ntmps62
  go_wp2_with fail
  refine (number_core base g b xs code _ HR.out).mono ?_
  rintro e w1 ⟨hC1, (⟨n, t, hn, rfl, hn2, ht, hR1⟩ | ⟨hn, rfl⟩)⟩
  · obtain ⟨off, cap, hA⟩ := hR1
    have HA : Hid (RdAt w1 base g b off cap t code) := hA
    have HG : Hid (getNum xs = some (n, t) ∧ t.length ≤ xs.length ∧ n < 2 ^ 64) := ⟨hn, ht, hn2⟩
    have HC1 : Hid (Chg (fun k => k = g) w w1) := hC1
    clear hn hA hC1 hn2 ht
    by_cases hle : n ≤ t.length
    · obtain ⟨s, hsd⟩ : ∃ s : ByteArray, s = (⟨t.toArray⟩ : ByteArray).extract 0 (0 + n) := ⟨_, rfl⟩
      have hbs : bl s = t.take n := by
        rw [hsd]
        show ((⟨t.toArray⟩ : ByteArray).extract 0 (0 + n)).data.toList = _
        rw [Lib.extract_data, Nat.add_sub_cancel_left]
        rfl
      have HG2 : Hid (getStr xs = some (bl s, t.drop n) ∧ s.size + (t.drop n).length ≤ xs.length) := by
        have h1 : s.size = (t.take n).length := by rw [← hbs, bl_len]
        refine ⟨?_, ?_⟩
        · show getStr xs = _
          unfold getStr
          rw [HG.out.1, hbs]
          simp only []
          rw [if_pos hle]
        · rw [h1, List.length_take, List.length_drop]; have := HG.out.2.1; omega
      have hsz : (⟨t.toArray⟩ : ByteArray).size = t.length := by show t.toArray.size = _; simp
      go_wp2_with fail
      refine (take_ok base g b off cap n t code _ HA.out hle).mono ?_
      rintro e w2 ⟨rfl, hA2, hC2⟩
      have hcv := Lib.run_convert_window (P := Tryd.prog) w2 22 5 9 Tryd.underlying22 Tryd.underlying5 Tryd.underlying9 b off ⟨t.toArray⟩ (bytes_of_bys (HA.out.bys.chgR hC2 HA.out.lt HA.out.ne)) 0 n cap (by omega)
      rw [← hsd, Nat.add_zero] at hcv
      have HW : Hid (Chg (fun k => k = g) w w2 ∧ RdAt w2 base g b (off + n) (cap - n) (t.drop n) code) := ⟨HC1.out.trans hC2, hA2⟩
      clear hsd hbs hsz hA2 hC2
      go_wp2_with fail
      go_ret
      exact ⟨HW.out.1, .inl ⟨s, t.drop n, HG2.out.1, rfl, HG2.out.2, ⟨_, _, HW.out.2⟩⟩⟩
    · have HG2 : Hid (getStr xs = none) := by
        show getStr xs = _
        unfold getStr
        rw [HG.out.1]
        simp only []
        rw [if_neg hle]
      go_wp2_with fail
      refine (take_bad base g b off cap n t code _ HA.out (by omega) HG.out.2.2).mono ?_
      rintro e w2 ⟨rfl, hB2⟩
      exact ⟨rfl, HC1.out.trans (Chg.of_below hB2), .inr ⟨HG2.out, rfl⟩⟩
  · have HG2 : Hid (getStr xs = none) := by
      show getStr xs = _
      unfold getStr
      rw [hn]
    exact ⟨rfl, hC1, .inr ⟨HG2.out, rfl⟩⟩

theorem text_ok (base g b : Nat) (xs : List UInt8) (code : Int) (w : World) (h : RdE w base g b xs code) (s : ByteArray) (t : List UInt8) (hs : getStr xs = some (bl s, t)) :
    Calls Tryd.prog 62 #[.pointer (some ⟨g, 0, none⟩)] w fun e w' => e = .returned (.string s) ∧ s.size + t.length ≤ xs.length ∧ RdE w' base g b t code ∧ Chg (fun k => k = g) w w' := by
  refine (text_core base g b xs code w h).mono ?_
  rintro e w' ⟨hC, (⟨s', t', h1, rfl, h2, h3⟩ | ⟨h1, _⟩)⟩
  · rw [hs] at h1
    simp only [Option.some.injEq, Prod.mk.injEq] at h1
    obtain ⟨h4, rfl⟩ := h1
    have : s = s' := by rw [← ba_bl s, ← ba_bl s', h4]
    subst this
    exact ⟨rfl, h2, h3, hC⟩
  · rw [hs] at h1; cases h1
theorem text_bad (base g b : Nat) (xs : List UInt8) (code : Int) (w : World) (h : RdE w base g b xs code) (hs : getStr xs = none) :
    Calls Tryd.prog 62 #[.pointer (some ⟨g, 0, none⟩)] w fun e w' => e = Corr code ∧ Chg (fun k => k = g) w w' := by
  refine (text_core base g b xs code w h).mono ?_
  rintro e w' ⟨hC, (⟨s', t', h1, rfl, h2, h3⟩ | ⟨_, h1⟩)⟩
  · rw [hs] at h1; cases h1
  · exact ⟨h1, hC⟩
/-- A region in which a text cannot be read. -/
theorem wp_region_text {id : Nat} {Q : Exit → Act → World → Prop} {a : Act} {w : World} {l : List Oper} (n : Nat) (d s : Tmp) (g : Nat) (code : Int) {tys : Array TypeId} {ty : TypeId} {pos : String} {aft : Array Edge}
    (ho : l = l.take n ++ ⟨some d, .call { callee := .value (.func 62), args := #[.tmp s], argTypes := tys }, ty, pos, aft, none⟩ :: l.drop (n + 1))
    (hB : ∀ m, Region.lexB .any (l.take n ++ (⟨some d, .call { callee := .value (.func 62), args := #[.tmp s], argTypes := tys }, ty, pos, aft, none⟩ :: l.drop (n + 1)).map (fk m)).toArray = true)
    (hB2 : waitsB (l.take n) ⟨some d, .call { callee := .value (.func 62), args := #[.tmp s], argTypes := tys }, ty, pos, aft, none⟩ (l.drop (n + 1)) d [s] = true)
    (hc : ∀ w', Below w.heap.size w w' → Calls Tryd.prog 62 #[.pointer (some ⟨g, 0, none⟩)] w' fun e w'' => e = Corr code ∧ ∀ a' : Act, a'.defers = a.defers → Q (.panic [{ v := corrV code, recovered := false }]) a' w'')
    (h : ∀ m, wpQuiet Tryd.prog (l.take n ++ (⟨some d, .call { callee := .value (.func 62), args := #[.tmp s], argTypes := tys }, ty, pos, aft, none⟩ :: l.drop (n + 1)).map (fk m)).toArray (fun w' => ∃ n : Out w, w' = n.u) (fun a' => a'.tmps.getD d undef = m ∧ ∀ p ∈ [(s, Value.pointer (some ⟨g, 0, none⟩))], a'.tmps.getD p.1 undef = p.2) (l.take n ++ (⟨some d, .call { callee := .value (.func 62), args := #[.tmp s], argTypes := tys }, ty, pos, aft, none⟩ :: l.drop (n + 1)).map (fk m)) a) :
    (Code.region id l.toArray true).wp Tryd.prog Q a w := by
  refine wp_region_dies (C := fun w' => ∃ n : Out w, w' = n.u) (l.take n) _ (l.drop (n + 1)) d [(s, .pointer (some ⟨g, 0, none⟩))] l ho (by kernel_rfl) hB hB2 rfl rfl ⟨⟨_, (Below.refl _ _).drew⟩, rfl⟩ h ?_
  rintro a' w' K ⟨n, rfl⟩ hd hp
  have h1 : a'.tmps.getD s undef = .pointer (some ⟨g, 0, none⟩) := hp (s, _) (by simp)
  unfold Oper.wp
  have hrun : (execOp a'.eval ⟨some d, .call { callee := .value (.func 62), args := #[.tmp s], argTypes := tys }, ty, pos, aft, none⟩).run Tryd.prog n.u = .ok (.enter 62 #[.pointer (some ⟨g, 0, none⟩)]) n.u := by
    have h2 : a'.tmps[s]?.getD undef = .pointer (some ⟨g, 0, none⟩) := by rw [← Array.getD_eq_getD_getElem?]; exact h1
    simp [execOp, h2, go_sem, Act.eval, Tryd.func62]
  rw [hrun, Oper.upon_enter]
  refine (hc n.u n.out).mono ?_
  rintro e w'' ⟨rfl, hq⟩
  exact hq a' hd

/-- A Row read. -/
def getRow (before xs : List UInt8) : Option (List UInt8 × List UInt8) :=
  match getNum xs with
  | none => none
  | some (n, t1) =>
    if before.length < n then none else
    match getStr t1 with
    | none => none
    | some (rest, t2) => if shared before (before.take n ++ rest) = n then some (before.take n ++ rest, t2) else none
def RowP (w : World) (base g b : Nat) (bf : ByteArray) (xs : List UInt8) (code : Int) (e : Ending) (w' : World) : Prop :=
  Chg (fun k => k = g) w w' ∧ ((∃ (s : ByteArray) (t : List UInt8), getRow (bl bf) xs = some (bl s, t) ∧ e = .returned (.string s) ∧ s.size + t.length ≤ bf.size + xs.length ∧ t.length ≤ xs.length ∧ RdE w' base g b t code) ∨ (getRow (bl bf) xs = none ∧ e = Corr code))
set_option maxHeartbeats 2000000 in
theorem rdRow_core (base g b : Nat) (bf : ByteArray) (xs : List UInt8) (code : Int) (w : World) (h : RdE w base g b xs code) (hbf : bf.size ≤ 2 ^ 31) (hxs : xs.length ≤ 2 ^ 30) :
    Calls Tryd.prog 63 #[.pointer (some ⟨g, 0, none⟩), .string bf] w fun e w' => RowP w base g b bf xs code e w' := by
  have HR : Hid (RdE w base g b xs code) := h
  clear h
  go_enter Tryd.func63, Tryd.ntmps63
  go_wp2_with fail
  refine (number_core base g b xs code _ HR.out).mono ?_
  rintro e w1 ⟨hC1, (⟨n, t, hn, rfl, hn2, ht, hR1⟩ | ⟨hn, rfl⟩)⟩
  · have HG : Hid (getNum xs = some (n, t) ∧ t.length ≤ xs.length ∧ n < 2 ^ 64) := ⟨hn, ht, hn2⟩
    have HC1 : Hid (Chg (fun k => k = g) w w1) := hC1
    obtain ⟨off, cap, hA⟩ := hR1
    have HA : Hid (RdAt w1 base g b off cap t code) := hA
    have c1 := hA.box.cell (j := 1) rfl
    clear hn hA hC1 hn2 ht
    by_cases hle : n ≤ bf.size
    · have z1 : (n : Int) ≤ (bf.size : Int) := by omega
      have z2 : (bf.size : Int) ≤ 2147483648 := by omega
      go_wp2_with (go_at_call 34; refine (demand_yes _ _).mono ?_; rintro e w3 ⟨rfl, rfl⟩)
      clear c1
      cases hg : getStr t with
      | none =>
        have HG2 : Hid (getRow (bl bf) xs = none ∧ getStr t = none) := by
          refine ⟨?_, hg⟩
          show getRow (bl bf) xs = none
          unfold getRow
          rw [HG.out.1]
          simp only []
          rw [if_neg (by rw [bl_len]; omega), hg]
        clear hg
        refine wp_region_text 4 23 22 g code rfl (fun m => by kernel_rfl) (by kernel_rfl) ?q ?_
        case q =>
          intro w' hb
          refine (text_bad base g b t code w' ⟨_, _, HA.out.chg (S := fun _ => False) (Chg.of_below hb) (fun q => q) (fun q => q)⟩ HG2.out.2).mono ?_
          rintro e w'' ⟨rfl, hC⟩
          exact ⟨rfl, fun a' hd => ⟨hd, HC1.out.trans ((Chg.of_below hb).trans hC), .inr ⟨HG2.out.1, rfl⟩⟩⟩
        intro m
        dsimp only [List.take, List.drop, List.map, fk, List.cons_append, List.nil_append]
        repeat (go_big_quiet_step (rfl))
        refine wpQuiet_nil ?_
        exact ⟨rfl, slots1 rfl⟩
      | some p =>
        obtain ⟨rl, t2⟩ := p
        obtain ⟨rest, hrest⟩ : ∃ rest : ByteArray, rest = ba rl := ⟨_, rfl⟩
        have HG2 : Hid (getStr t = some (bl rest, t2)) := by rw [hrest, bl_ba]; exact hg
        clear hg hrest
        have HE : Hid (∀ w', w' = w3.drew → RdE w' base g b t code) := fun w' hw' => by
          rw [hw']
          exact ⟨_, _, HA.out.chg (S := fun _ => False) (Chg.of_below (Below.refl _ _).drew) (fun q => q) (fun q => q)⟩
        have hrs : rest.size ≤ 1073741824 := by
          obtain ⟨_, h2⟩ := getStr_iff.1 HG2.out
          have h3 : (bl rest).length ≤ t.length := by rw [h2]; unfold strB; simp; omega
          rw [bl_len] at h3
          have := HG.out.2.1
          omega
        have hbs : bf.size ≤ 2147483648 := by omega
        go_region_with (go_at_call 62; refine (text_ok base g b t code _ (HE.out _ rfl) rest t2 HG2.out).mono ?_; rintro e w4 ⟨rfl, hsz, hR4, hC4⟩)
        obtain ⟨rw', hrw⟩ : ∃ s : ByteArray, s = bf.extract 0 n ++ rest := ⟨_, rfl⟩
        have hRow : bl rw' = (bl bf).take n ++ bl rest := by
          rw [hrw]
          show (bf.extract 0 n ++ rest).data.toList = _
          rw [ByteArray.data_append, Array.toList_append, Lib.extract_data]
          simp
        have hrsz : rw'.size = n + rest.size := by
          rw [← bl_len, hRow, List.length_append, bl_len, List.length_take, bl_len]
          omega
        obtain ⟨sh, hsh⟩ : ∃ sh, sh = shared (bl bf) (bl rw') := ⟨_, rfl⟩
        have HG3 : Hid (getRow (bl bf) xs = if sh = n then some (bl rw', t2) else none) := by
          show getRow (bl bf) xs = _
          unfold getRow
          rw [HG.out.1]
          simp only []
          rw [if_neg (by rw [bl_len]; omega), HG2.out]
          simp only []
          rw [← hRow, hsh]
        have HS : Hid (∀ w', Calls Tryd.prog 84 #[.string bf, .string rw'] w' fun e w'' => e = .returned (.int .i64 (sh : Int)) ∧ Below w'.heap.size w' w'') := fun w' => by
          rw [hsh]
          exact implShared_core bf rw' w' (by unfold maxLen; omega) (by unfold maxLen; omega)
        obtain ⟨off4, cap4, hA4⟩ := hR4
        have HA4 : Hid (RdAt w4 base g b off4 cap4 t2 code ∧ Chg (fun k => k = g) w w4 ∧ rw'.size + t2.length ≤ bf.size + xs.length ∧ t2.length ≤ xs.length) := by
          have := HG.out.2.1
          exact ⟨hA4, (HC1.out.trans (Chg.of_below (Below.refl _ _).drew)).trans hC4, by omega, by omega⟩
        have c1 := hA4.box.cell (j := 1) rfl
        have glt := hA4.box.lt.2
        have e1 : ∀ n : Out w4, n.u.cell? ⟨g, 1, none⟩ = some (.int .i64 code) := fun n => (n.out.cell (p := ⟨g, 1, none⟩) glt).trans c1
        have hn9 : (n : Int) ≤ 2147483648 := by omega
        rw [← hrw]
        clear hrw hRow hsh hA4 hC4 hsz c1 glt hrsz hrs hbs HE HG2
        simp only [List.getElem_toArray, List.getElem_cons_succ, List.getElem_cons_zero, Act.put, List.setIfInBounds_toArray, List.set_cons_succ, List.set_cons_zero]
        go_upto_region 4 with fail
        by_cases hsn : sh = n
        · subst hsn
          refine wp_region_out (by kernel_rfl) (by kernel_rfl) ?_
          repeat (go_big_quiet_step ((first | rfl | (go_at_call 84; exact Calls.out_of (HS.out _)) | (go_at_call 34; exact Calls.out_of ((demand_yes _ _).mono fun e w' ⟨he, hw⟩ => ⟨he, hw ▸ Below.refl _ _⟩)))))
          refine wpQuiet_nil ?_
          rintro wy ⟨⟨wx, hby⟩, rfl⟩
          go_wp2_with fail
          go_ret
          have h3 := HG3.out
          rw [if_pos trivial] at h3
          have hc := HA4.out.2.1.trans (Chg.of_below hby)
          exact ⟨hc, .inl ⟨rw', t2, h3, rfl, HA4.out.2.2.1, HA4.out.2.2.2, ⟨_, _, HA4.out.1.chg (S := fun _ => False) (Chg.of_below hby) (fun q => q) (fun q => q)⟩⟩⟩
        · have h3 := HG3.out
          rw [if_neg hsn] at h3
          have HF : Hid (getRow (bl bf) xs = none) := h3
          have z9 : ¬ (sh : Int) = (n : Int) := by omega
          clear h3 HG3 hsn
          refine wp_region_demand 35 30 (.tmp 34) code [(30, .bool false), (34, .int .i64 code)] rfl (fun m => by kernel_rfl) (by kernel_rfl) (fun a' h => ⟨h (30, _) (by simp), h (34, _) (by simp)⟩) ?q ?_
          case q => exact fun a' w' hb hd => ⟨hd, HA4.out.2.1.trans (Chg.of_below hb), .inr ⟨HF.out, rfl⟩⟩
          intro m
          dsimp only [List.dropLast, fk, List.cons_append, List.nil_append]
          repeat (go_big_quiet_step ((first | rfl | (go_at_call 84; exact Calls.out_of (HS.out _)))))
          refine wpQuiet_nil ?_
          exact ⟨rfl, slots2 (congrArg Value.bool (beq_eq_false_iff_ne.2 z9)) rfl⟩
    · have z1 : ¬ (n : Int) ≤ (bf.size : Int) := by omega
      have z2 : (bf.size : Int) ≤ 2147483648 := by omega
      have HG2 : Hid (getRow (bl bf) xs = none) := by
        show getRow (bl bf) xs = none
        unfold getRow
        rw [HG.out.1]
        simp only []
        rw [if_pos (by rw [bl_len]; omega)]
      go_wp2_with (go_at_call 34; refine (demand_no _ _).mono ?_; rintro e w3 ⟨rfl, rfl⟩)
      exact ⟨rfl, HC1.out, .inr ⟨HG2.out, rfl⟩⟩
  · have HG2 : Hid (getRow (bl bf) xs = none) := by
      show getRow (bl bf) xs = none
      unfold getRow
      rw [hn]
    exact ⟨rfl, hC1, .inr ⟨HG2.out, rfl⟩⟩
end Go.Proofs.YtodaanmbbgdclabDoor

/-
  An entry read in the program's order (mathematics).
-/
namespace Go.Proofs.YtodaanmbbgdclabDoor
set_option linter.unusedVariables false
set_option linter.unusedSimpArgs false

def eT5 (row fam qual : List UInt8) (ts kind : Nat) (t6 : List UInt8) : Option (Ent × List UInt8) :=
  match getStr t6 with
  | none => none
  | some (val, t7) => if 2 < kind ∨ (⟨ba row, ba fam, ba qual, (ts : Int), (kind : Int), ba val⟩ : Ent).vld = false then none else some (⟨ba row, ba fam, ba qual, (ts : Int), (kind : Int), ba val⟩, t7)
def eT4 (row fam qual : List UInt8) (ts : Nat) (t5 : List UInt8) : Option (Ent × List UInt8) :=
  match getNum t5 with
  | none => none
  | some (kind, t6) => eT5 row fam qual ts kind t6
def eT3 (row fam qual t4 : List UInt8) : Option (Ent × List UInt8) :=
  match getNum t4 with
  | none => none
  | some (ts, t5) => eT4 row fam qual ts t5
def eT2 (row fam t3 : List UInt8) : Option (Ent × List UInt8) :=
  match getStr t3 with
  | none => none
  | some (qual, t4) => eT3 row fam qual t4
def eT1 (row t2 : List UInt8) : Option (Ent × List UInt8) :=
  match getStr t2 with
  | none => none
  | some (fam, t3) => eT2 row fam t3
theorem getEnt_row (b xs : List UInt8) : getEnt b xs = match getRow b xs with | none => none | some (row, t) => eT1 row t := by
  unfold getRow getEnt
  cases getNum xs with
  | none => rfl
  | some p =>
    obtain ⟨n, t1⟩ := p
    simp only []
    cases getStr t1 with
    | none =>
      simp only []
      by_cases h : b.length < n
      · rw [if_pos h]
      · rw [if_neg h]
    | some q =>
      obtain ⟨rest, t2⟩ := q
      simp only []
      by_cases h : b.length < n
      · rw [if_pos h, if_pos h]
      · rw [if_neg h, if_neg h]
        by_cases hs : shared b (b.take n ++ rest) = n
        · rw [if_pos hs]
          simp only [hs, not_true_eq_false, false_or]
          unfold eT1
          cases getStr t2 with
          | none => rfl
          | some q1 =>
            obtain ⟨fam, t3⟩ := q1
            simp only [eT2]
            cases getStr t3 with
            | none => rfl
            | some q2 =>
              obtain ⟨qual, t4⟩ := q2
              simp only [eT3]
              cases getNum t4 with
              | none => rfl
              | some q3 =>
                obtain ⟨ts, t5⟩ := q3
                simp only [eT4]
                cases getNum t5 with
                | none => rfl
                | some q4 =>
                  obtain ⟨kind, t6⟩ := q4
                  simp only [eT5]
                  all_goals (cases getStr t6 <;> rfl)
        · rw [if_neg hs]
          simp only [hs, not_false_eq_true, true_or, or_true, if_true]
          cases getStr t2 with
          | none => rfl
          | some q1 =>
            simp only []
            cases getStr q1.2 with
            | none => rfl
            | some q2 =>
              simp only []
              cases getNum q2.2 with
              | none => rfl
              | some q3 =>
                simp only []
                cases getNum q3.2 with
                | none => rfl
                | some q4 =>
                  simp only []
                  cases getStr q4.2 <;> rfl
theorem vE_kind {r f q v : ByteArray} {k : Int} (h : k < 0 ∨ 2 < k) : vE r f q k v = false := by
  unfold vE
  simp
  omega
end Go.Proofs.YtodaanmbbgdclabDoor

/-
  spec.l1Into: an entry laid into an ordered list.
-/
namespace Go.Proofs.YtodaanmbbgdclabDoor
open Go.ChangeShapes Go.WideShapes Go.ChangeAt Go.RowKit Go.Deep
set_option linter.unusedVariables false

/-- One entry appended to a row of the call's own. -/
theorem wpList_append_ent {ops : Array Oper} {rest : List Oper} {o : Oper} {a : Act} {Q : Exit → Act → World → Prop} (w : World) (hgd : o.guard = none) (s x : Operand)
    (ho : o.op = .call { callee := .builtin .append, args := #[s, x], argTypes := #[39, 39] })
    (base g cp n blk : Nat) (fs : List Ent) (e : Ent) (hs : a.eval s = .slice (some ⟨g, 0, none⟩) n cp) (hx : a.eval x = .slice (some ⟨blk, 0, none⟩) 1 1) (hn : n = fs.length) (hO : OwnE w base g cp fs)
    (hc : EntsAt w blk 0 [e]) (hlen : fs.length ≤ 2 ^ 30) (hbase : base ≤ w.heap.size)
    (h : ∀ g' cp' w', OwnE w' base g' cp' (fs ++ [e]) → w.grownBy w' (some g) → wpList Tryd.prog ops Q rest (a.put o.dst (.slice (some ⟨g', 0, none⟩) (n + 1) cp')) w') : wpList Tryd.prog ops Q (o :: rest) a w := by
  obtain ⟨i, hi, hz0, hz1, hz2⟩ := info_parts Tryd.infoEnt
  subst hn
  obtain ⟨c0, c1, c2, c3, c4, c5⟩ := hc 0 e rfl
  refine wpList_append_own w hgd s x 39 ho base 25 i _ 6 80 Tryd.underlying39 hi hz0 hz1 hz2 rfl (by decide) (.slice (some ⟨g, 0, none⟩) fs.length cp) fs.length (cellsE fs) hs hO ⟨blk, 0, none⟩ 1 1 (cellsE [e]) hx rfl ?_ ?_ ?_ ?_ hbase ?_
  · intro j u hu
    have hj : j < 6 := by
      have := (List.getElem?_eq_some_iff.1 hu).1
      rw [length_cellsE] at this
      simpa using this
    rw [Addr.add_mid, Nat.zero_add]
    simp only [Nat.zero_mul, Nat.zero_add] at c0 c1 c2 c3 c4 c5
    match j, hj, hu with
    | 0, _, hu => simp [cellsE] at hu; rw [← hu]; exact c0
    | 1, _, hu => simp [cellsE] at hu; rw [← hu]; exact c1
    | 2, _, hu => simp [cellsE] at hu; rw [← hu]; exact c2
    | 3, _, hu => simp [cellsE] at hu; rw [← hu]; exact c3
    | 4, _, hu => simp [cellsE] at hu; rw [← hu]; exact c4
    | 5, _, hu => simp [cellsE] at hu; rw [← hu]; exact c5
  · intro u hu
    simp [cellsE] at hu
    rcases hu with rfl | rfl | rfl | rfl | rfl | rfl <;> rfl
  · unfold maxLen; omega
  · omega
  · intro v' w' hown hgr hnil
    rw [← cellsE_append] at hown
    have hlen' : (fs ++ [e]).length = fs.length + 1 := by simp
    rcases hown.2 with ⟨hv, _⟩ | ⟨g', cap', cur, hv, h1, h2, h3⟩
    · have := (hnil.1 hv).1
      simp at this
    · subst hv
      exact h g' cap' w' (by unfold OwnE; rw [hlen']; exact hown) hgr

/-- An entry laid into an ordered list, in the place of one with the same key. -/
def intoG (e : Ent) : List Ent → Bool → List Ent
  | [], done => if done then [] else [e]
  | x :: r, done =>
    if keyCmp x e = -1 then x :: intoG e r done
    else if keyCmp x e = 0 then (if done then intoG e r true else e :: intoG e r true)
    else (if done then x :: intoG e r true else e :: x :: intoG e r true)
def into (L : List Ent) (e : Ent) : List Ent := intoG e L false

theorem length_intoG (e : Ent) : ∀ (L : List Ent) (d : Bool), (intoG e L d).length ≤ L.length + 1
  | [], d => by unfold intoG; split <;> simp
  | x :: r, d => by
    have h1 := length_intoG e r d
    have h2 := length_intoG e r true
    have h3 : ∀ (L : List Ent), (intoG e L true).length ≤ L.length := by
      intro L
      induction L with
      | nil => simp [intoG]
      | cons y s ih =>
        unfold intoG
        split
        · simp; omega
        · split
          · simp; omega
          · simp; omega
    have h4 := h3 r
    unfold intoG
    split
    · simp; omega
    · split
      · split <;> simp <;> omega
      · split <;> simp <;> omega

end Go.Proofs.YtodaanmbbgdclabDoor

