/-
  impl.makeSumTable, (*impl.sumTable).of, impl.Crc32.
-/
import Derived.Test.YtlgeffinhbodeacQCrcT
import Derived.Test.YtlgeffinhbodeacQBys
import Derived.Deep.WholeRow
import Derived.Laws.Rows
import Derived.Laws.Tables
namespace Go.Proofs.Ytlgeffinhbodeac
open Go.ChangeShapes Go.WideShapes Go.ChangeAt Go.RowKit Go.Deep
set_option linter.unusedVariables false
set_option linter.unusedSimpArgs false
set_option maxRecDepth 100000

/-- The table with its first k entries. -/
def tabA (k : Nat) : Array Value := Array.ofFn (n := 256) fun i => if i.val < k then .int .u32 ((tabE i.val).toNat : Int) else .int .u32 0
theorem tabA_size (k : Nat) : (tabA k).size = 256 := by simp [tabA]
theorem tabA_zero : tabA 0 = Array.replicate 256 (.int .u32 0) := by
  apply Array.ext
  · simp [tabA]
  · intro i h1 h2; simp [tabA]
theorem tabA_at (k i : Nat) (hi : i < k) (h : i < 256) : (tabA k)[i]? = some (.int .u32 ((tabE i).toNat : Int)) := by
  rw [Array.getElem?_eq_getElem (by rw [tabA_size]; exact h)]
  simp [tabA, hi]
theorem tabA_next (k : Nat) (h : k < 256) : (tabA k).setIfInBounds k (.int .u32 ((tabE k).toNat : Int)) = tabA (k + 1) := by
  apply Array.ext
  · simp [tabA]
  · intro i h1 h2
    have h3 : i < 256 := by rw [tabA_size] at h2; exact h2
    simp only [tabA, Array.getElem_setIfInBounds, Array.getElem_ofFn]
    by_cases e : k = i
    · subst e; simp
    · rw [Array.getElem_setIfInBounds_ne (by simpa using h3) e]
      simp only [Array.getElem_ofFn]
      by_cases q : i < k
      · simp [q, show i < k + 1 from by omega]
      · simp [q, show ¬ i < k + 1 from by omega]
/-- The table lies there. -/
def TabAt (w : World) (b off : Nat) : Prop := ∀ i, i < 256 → w.cell? ⟨b, off + i, none⟩ = some (.int .u32 ((tabE i).toNat : Int))
theorem TabAt.below {B : Nat} {w w' : World} {b off : Nat} (h : TabAt w b off) (hb : Below B w w') (hlt : b < B) : TabAt w' b off := by
  intro i hi
  rw [hb.cell (p := ⟨b, off + i, none⟩) hlt]
  exact h i hi

theorem shr32 (s : BitVec 32) (k : Nat) (z : Int) (hz : z = ((2 ^ k : Nat) : Int)) : (s.toNat : Int) / z = ((s >>> k).toNat : Int) := by
  subst hz
  rw [BitVec.toNat_ushiftRight, Nat.shiftRight_eq_div_pow]; exact (Int.natCast_ediv _ _).symm
theorem xor8 (a b : Nat) (ha : a < 256) (hb : b < 256) : bits .xor .u8 (a : Int) (b : Int) = ((a ^^^ b : Nat) : Int) := by
  have h1 : BitVec.ofInt 8 (a : Int) = BitVec.ofNat 8 a := by simp
  have h2 : BitVec.ofInt 8 (b : Int) = BitVec.ofNat 8 b := by simp
  show IntKind.wrap .u8 ((BitVec.ofInt 8 (a : Int) ^^^ BitVec.ofInt 8 (b : Int)).toNat : Int) = _
  rw [h1, h2, BitVec.toNat_xor, BitVec.toNat_ofNat, BitVec.toNat_ofNat, Nat.mod_eq_of_lt ha, Nat.mod_eq_of_lt hb]
  have : a ^^^ b < 256 := Nat.xor_lt_two_pow (n := 8) ha hb
  simp only [IntKind.wrap, IntKind.bits, IntKind.signed, Bool.false_and, Bool.false_eq_true, if_false]
  omega

set_option maxHeartbeats 2000000 in
theorem tableOf_core (tb toff b off cap : Nat) (xs : List UInt8) (w : World) (hT : TabAt w tb toff) (hE : BysAt w b off xs) (hlen : xs.length ≤ maxLen) :
    Calls Try.prog 61 #[.pointer (some ⟨tb, toff, none⟩), .slice (some ⟨b, off, none⟩) xs.length cap] w fun e w' => e = .returned (.int .u32 ((crc xs).toNat : Int)) ∧ w' = w := by
  have HE : Hid (BysAt w b off xs ∧ TabAt w tb toff) := ⟨hE, hT⟩
  clear hE hT
  unfold maxLen at hlen
  go_enter Try.func61, Try.ntmps61
  go_wp2_with fail
  go_loopw [5, 10] (fun c i wr => ∃ (k : Nat), k ≤ xs.length ∧ c = .int .u32 ((crcTo 4294967295#32 (xs.take k)).toNat : Int) ∧ i = .int .i64 k ∧ wr = w) (fun _ i _ => xs.length - (intOf i).toNat)
  case atStart => exact ⟨0, Nat.zero_le _, rfl, rfl, rfl⟩
  case round =>
    obtain ⟨k, hk, rfl, rfl, rfl⟩ := hrel
    by_cases hlt : k < xs.length
    · obtain ⟨x, hx⟩ : ∃ x, xs[k]? = some x := ⟨_, List.getElem?_eq_getElem hlt⟩
      have c0 := HE.out.1 k x hx
      obtain ⟨s, hs⟩ : ∃ s, s = crcTo 4294967295#32 (xs.take k) := ⟨_, rfl⟩
      rw [← hs]
      obtain ⟨m, hm⟩ : ∃ m, m = (s.toNat % 256) ^^^ x.toNat := ⟨_, rfl⟩
      have HS : Hid (crcTo 4294967295#32 (xs.take (k + 1)) = tabE m ^^^ (s >>> 8)) := by
        show crcTo 4294967295#32 (xs.take (k + 1)) = tabE m ^^^ (s >>> 8)
        rw [List.take_add_one, hx, hs, hm]
        exact (crcTo_snoc _ _ _).trans (by rw [crcB_tab, hs])
      have hbx : bits BinOp.xor .u8 ((s.toNat : Int) % 256) (x.toNat : Int) = (m : Int) := by
        rw [hm]; exact xor8 (s.toNat % 256) x.toNat (by omega) (u8lt x)
      have hm2 : m < 256 := by rw [hm]; exact tab_lt s x
      have hmz : (0 : Int) ≤ (m : Int) ∧ (m : Int) < 256 := by omega
      have ct := HE.out.2 m hm2
      clear hx hs hm hm2
      go_wp2_with fail
      have hn : bits BinOp.xor .u32 ((tabE m).toNat : Int) ((s.toNat : Int) / 256) = ((crcTo 4294967295#32 (xs.take (k + 1))).toNat : Int) := by
        rw [HS.out]
        exact xor32 (tabE m) (s >>> 8) (shr32 s 8 256 rfl)
      exact ⟨⟨k + 1, by omega, by rw [hn], by go_num, trivial⟩, by simp [intOf]; omega⟩
    · obtain rfl : k = xs.length := by omega
      rw [List.take_of_length_le (Nat.le_refl _)]
      go_wp2_with fail
      go_ret
      refine ⟨?_, rfl⟩
      have hx : bits BinOp.xor .u32 IntKind.u32.max ((crcTo 4294967295#32 xs).toNat : Int) = ((crc xs).toNat : Int) := by
        unfold crc
        rw [BitVec.xor_comm]
        exact xor32 4294967295#32 (crcTo 4294967295#32 xs) rfl
      show Ending.returned (Value.int .u32 (bits BinOp.xor .u32 IntKind.u32.max ((crcTo 4294967295#32 xs).toNat : Int))) = _
      rw [hx]

theorem and1 (c : BitVec 32) : bits .and .u32 (c.toNat : Int) 1 = ((c.toNat % 2 : Nat) : Int) := by
  have h1 : BitVec.ofInt 32 (c.toNat : Int) = c := by simp
  show IntKind.wrap .u32 ((BitVec.ofInt 32 (c.toNat : Int) &&& BitVec.ofInt 32 1).toNat : Int) = _
  rw [h1, BitVec.toNat_and]
  have : (BitVec.ofInt 32 1).toNat = 1 := by decide
  rw [this, Nat.and_one_is_mod]
  simp only [IntKind.wrap, IntKind.bits, IntKind.signed, Bool.false_and, Bool.false_eq_true, if_false]
  omega

theorem Below.setRow {B : Nat} {a w : World} (h : Below B a w) {g : Nat} (hg : B ≤ g) (cs : Array Value) : Below B a (w.setRow g cs) :=
  h.trans ⟨rfl, rfl, rfl, by simp, fun k hk => setRow_other w g k cs (by omega)⟩
theorem tabA_one (k : Nat) : (tabA k).all (·.oneCell') = true := by
  rw [Array.all_eq_true_iff_forall_mem]
  intro v hv
  obtain ⟨i, hi, rfl⟩ := Array.getElem_of_mem hv
  simp only [tabA, Array.getElem_ofFn]
  split <;> rfl
theorem info_table : (Try.prog.info? 102).map (fun i => (i.zero, i.size)) = some (some (.agg (Array.replicate 256 (.int .u32 0))), 256) := by kernel_rfl

set_option maxHeartbeats 2000000 in
theorem makeTable_core (w : World) :
    Calls Try.prog 57 #[] w fun e w' => e = .returned (.agg (tabA 256)) ∧ Below w.heap.size w w' := by
  have hzv := (zero_of_info info_table).1
  go_enter Try.func57, Try.ntmps57
  go_wp2_with fail
  clear hzv
  rw [← tabA_zero]
  obtain ⟨W, hW⟩ : ∃ W, W = w.alloc (.cells (tabA 0) 102) := ⟨_, rfl⟩
  have hs : W.heap.size = w.heap.size + 1 := by rw [hW]; simp
  rw [← hW, ← hs]
  have HW : Hid (W = w.alloc (.cells (tabA 0) 102) ∧ W.heap.size = w.heap.size + 1) := ⟨hW, hs⟩
  clear hW hs
  go_loopw [4] (fun i wr => ∃ (k : Nat), k ≤ 256 ∧ i = .int .i64 k ∧ wr = W.alloc (.cells (tabA k) 102)) (fun i _ => 256 - (intOf i).toNat)
  case atStart => exact ⟨0, Nat.zero_le _, rfl, rfl⟩
  case round =>
    obtain ⟨k, hk, rfl, hwr⟩ := hrel
    by_cases hlt : k < 256
    · have z : (k : Int) < 256 := by omega
      have HB : Hid ((k : Int) = ((BitVec.ofNat 32 k).toNat : Int) ∧ k < 256) := by
        refine ⟨?_, hlt⟩
        rw [BitVec.toNat_ofNat]; omega
      have Hwr : Hid (wr = W.alloc (.cells (tabA k) 102)) := hwr
      clear hwr
      go_wp2_with fail
      go_loopw [3, 9] (fun c j wq => ∃ (q : Nat), q ≤ 8 ∧ c = .int .u32 ((shN q (BitVec.ofNat 32 k)).toNat : Int) ∧ j = .int .i64 q ∧ wq = W.alloc (.cells (tabA k) 102)) (fun _ j _ => 8 - (intOf j).toNat)
      case atStart => exact ⟨0, Nat.zero_le _, congrArg (Value.int .u32) HB.out.1, rfl, Hwr.out⟩
      case round =>
        clear Hwr
        obtain ⟨q, hq, rfl, rfl, hwr⟩ := hrel
        obtain ⟨c, hc⟩ : ∃ c, c = shN q (BitVec.ofNat 32 k) := ⟨_, rfl⟩
        have HQ : Hid (shN (q + 1) (BitVec.ofNat 32 k) = sh c) := by rw [hc]; exact rfl
        rw [← hc]
        by_cases h8 : q < 8
        · have Hwr : Hid (wr = W.alloc (.cells (tabA k) 102)) := hwr
          have z8 : (q : Int) < 8 := by omega
          have ha := and1 c
          clear hwr hc
          by_cases hp : c.toNat % 2 = 1
          · rw [hp] at ha
            have HP : Hid (c.toNat % 2 = 1) := hp
            clear hp
            go_wp2_with fail
            have hx : bits .xor .u32 ((c.toNat : Int) / 2) 3988292384 = ((sh c).toNat : Int) := by
              unfold sh
              rw [if_pos HP.out]
              rw [shr32 c 1 2 rfl]
              exact xor32 (c >>> 1) 3988292384#32 (by rfl)
            exact ⟨⟨q + 1, by omega, by rw [hx, HQ.out], by go_num, Hwr.out⟩, by simp [intOf]; omega⟩
          · rw [show c.toNat % 2 = 0 from by omega] at ha
            have HP : Hid (¬ c.toNat % 2 = 1) := hp
            clear hp
            go_wp2_with fail
            have hx : ((c.toNat : Int) / 2) = ((sh c).toNat : Int) := by
              unfold sh
              rw [if_neg HP.out]
              exact shr32 c 1 2 rfl
            exact ⟨⟨q + 1, by omega, by rw [hx, HQ.out], by go_num, Hwr.out⟩, by simp [intOf]; omega⟩
        · obtain rfl : q = 8 := by omega
          have HC : Hid (c = tabE k) := hc
          have hk2 : k < (tabA k).size := by rw [tabA_size]; exact HB.out.2
          obtain ⟨v, hv⟩ : ∃ v, (tabA k)[k]? = some v := ⟨_, Array.getElem?_eq_getElem hk2⟩
          rw [hwr]
          clear hwr hc hk2
          go_wp2_with fail
          refine ⟨⟨k + 1, by have := HB.out.2; omega, by go_num, ?_⟩, by have := HB.out.2; simp [intOf]; omega⟩
          rw [HC.out, tabA_next k HB.out.2]
    · obtain rfl : k = 256 := by omega
      rw [hwr]
      clear hwr
      go_upto_region 14 with fail
      have hw0 : W.heap[w.heap.size]? = some (.cells (tabA 0) 102 (0, 0)) := by rw [HW.out.1]; exact heap_alloc_new _ _
      have hw1 : (W.alloc (.cells (tabA 256) 102)).heap[w.heap.size]? = some (.cells (tabA 0) 102 (0, 0)) := by
        rw [Below.heap_alloc W _ w.heap.size (by rw [HW.out.2]; omega)]; exact hw0
      have hi : (Try.prog.info? 102).map (·.size) = some 256 := (zero_of_info info_table).2
      have hB : Below w.heap.size w ((W.alloc (.cells (tabA 256) 102)).setRow w.heap.size (tabA 256)) := by
        refine Below.setRow ?_ (Nat.le_refl _) _
        rw [HW.out.1]
        exact (((Below.refl _ w).alloc (Nat.le_refl _) _).alloc (by simp) _)
      apply wp_region_list
      refine wpList_load_row rfl 102 _ rfl W.heap.size rfl 102 (tabA 256) (0, 0) _ (heap_alloc_new W _) Try.underlying102 rfl (by rw [tabA_size]; exact hi) ?_
      refine wpList_store_row rfl 102 _ _ rfl w.heap.size (tabA 256) rfl rfl 102 (tabA 0) hw1 (by rw [tabA_size]; exact hi) (by rw [tabA_size, tabA_size]) (tabA_one _) ?_
      have hr := setRow_heap _ _ _ (tabA 256) _ _ hw1
      obtain ⟨W2, hW2⟩ : ∃ W2, W2 = (W.alloc (.cells (tabA 256) 102)).setRow w.heap.size (tabA 256) := ⟨_, rfl⟩
      rw [← hW2] at hB hr ⊢
      clear hW2 hw0 hw1
      apply wpList_nil
      go_wp2_with fail
      refine bodyPost_ret (v := .agg (tabA 256)) (results_cell_row rfl _ _ w.heap.size _ _ _ _ rfl hr Try.underlying102 rfl (by rw [tabA_size]; exact hi)) rfl ⟨rfl, hB⟩

end Go.Proofs.Ytlgeffinhbodeac
