/-
  (*impl.patternReader): item, class.
-/
import Derived.Test.YthkmecppjhcidacPc
namespace Go.Proofs.Ythkmecppjhcidac
open Go.ChangeShapes Go.WideShapes Go.ChangeAt Go.RowKit Go.Deep
set_option linter.unusedVariables false
set_option linter.unusedSimpArgs false
set_option maxRecDepth 100000

/-- The set with the bytes from a to b besides. -/
def wider (f : UInt8 → Bool) (a b : UInt8) : UInt8 → Bool := fun c => f c || (decide (a ≤ c) && decide (c ≤ b))
/-- What turns in new blocks turns in none of the old ones. -/
theorem Chg.absorb {S T : Nat → Prop} {w w1 w2 : World} (h : Chg S w w1) (k : Chg T w1 w2) (hT : ∀ j, T j → S j ∨ w.heap.size ≤ j) : Chg S w w2 :=
  ⟨k.os.trans h.os, k.tape.trans h.tape, k.output.trans h.output, Nat.le_trans h.size k.size, fun i hi hn => (k.block i (Nat.lt_of_lt_of_le hi h.size) (fun q => by rcases hT i q with q | q; exact hn q; omega)).trans (h.block i hi hn)⟩
theorem wrap64_u8 (a : UInt8) : wrap64 (a.toNat : Int) = (a.toNat : Int) := by
  have := UInt8.toNat_lt a
  unfold wrap64
  omega
theorem chg_setRow (w : World) (g : Nat) (cs : Array Value) : Chg (fun k => k = g) w (w.setRow g cs) := ⟨rfl, rfl, rfl, by simp, fun k hk hn => setRow_other w g k cs hn⟩

set_option maxHeartbeats 8000000 in
theorem item_core {base g i o : Nat} {p : ByteArray} (f : UInt8 → Bool) {w : World} (h : PrAt w base g p i o) (hp : p.size ≤ 200) (hi : i ≤ p.size) :
    Calls Try.prog 141 #[.pointer (some ⟨g, 0, none⟩), .agg (setA f)] w fun e w' => Chg (fun k => k = g) w w' ∧
      ((∃ (a b : UInt8) (k : Nat), itemM (sb p) i = .inl (a, b, k) ∧ e = .returned (.agg (setA (wider f a b))) ∧ PrAt w' base g p k o) ∨ (∃ (c : Int) (k : Nat), itemM (sb p) i = .inr (c, k) ∧ e = Pf c k)) := by
  have hgl := h.lt.2
  obtain ⟨W0, hW0⟩ : ∃ W0, W0 = (w.alloc (.cells (setA f) 195)).alloc (.cells (setA (fun _ => false)) 195) := ⟨_, rfl⟩
  have HW : Hid (SetAt W0 w.heap.size w.heap.size f ∧ SetAt W0 w.heap.size (w.heap.size + 1) (fun _ => false) ∧ PrAt W0 base g p i o ∧ Chg (fun k => k = g) w W0) := by
    rw [hW0]
    have hb : Below w.heap.size w ((w.alloc (.cells (setA f) 195)).alloc (.cells (setA (fun _ => false)) 195)) := ((Below.refl _ _).alloc (Nat.le_refl _) _).alloc (by simp) _
    refine ⟨BoxAt.ofHeap (heap_alloc2_old w _ _) (Nat.le_refl _) (setA_size _), BoxAt.ofHeap (heap_alloc2_new w _ _) (by omega) (setA_size _), BoxAt.below h hb, Chg.of_below hb⟩
  have hzv := (zero_of_info info_set).1
  rw [setA_none] at hW0
  have c1 := HW.out.2.2.1.cell (j := 1) rfl
  clear h
  go_enter Try.func141, Try.ntmps141
  go_upto_region 1 with fail
  rw [← hW0]
  clear hW0 hzv
  go_wp2_with fail
  clear c1
  refine (classByte_core HW.out.2.2.1 hp hi).mono ?_
  rintro e w1 ⟨hC1, (⟨a, k1, hk1, rfl, hP1⟩ | ⟨x, k, hk, rfl⟩)⟩
  case inr =>
    refine ⟨rfl, HW.out.2.2.2.trans hC1, .inr ⟨2, k, ?_, rfl⟩⟩
    unfold itemM; rw [hk]
  have HW1 : Hid (SetAt w1 w.heap.size w.heap.size f ∧ SetAt w1 w.heap.size (w.heap.size + 1) (fun _ => false) ∧ PrAt w1 base g p k1 o ∧ Chg (fun k => k = g) w w1) := ⟨BoxAt.chg HW.out.1 hC1 (by omega), BoxAt.chg HW.out.2.1 hC1 (by omega), hP1, HW.out.2.2.2.trans hC1⟩
  have HK1 : Hid (chM (sb p) i = (a, k1, true)) := hk1
  have hk1p : k1 ≤ p.size := by have := (chM_gt hk1).2; rw [sb_len] at this; exact this
  clear hC1 hk1 hP1 HW
  go_wp2_with fail
  refine (pskip_core 45 HW1.out.2.2.1 hp).mono ?_
  rintro e w2 ⟨hC2, h2⟩
  have HW2 : Hid (SetAt w2 w.heap.size w.heap.size f ∧ SetAt w2 w.heap.size (w.heap.size + 1) (fun _ => false) ∧ Chg (fun k => k = g) w w2) := ⟨BoxAt.chg HW1.out.1 hC2 (by omega), BoxAt.chg HW1.out.2.1 hC2 (by omega), HW1.out.2.2.2.trans hC2⟩
  clear hC2 HW1
  rcases h2 with ⟨hx, rfl, hP2⟩ | ⟨hx, rfl, hP2⟩
  case' inl =>
    have HP2 : Hid (PrAt w2 base g p (k1 + 1) o ∧ (sb p)[k1]? = some 45) := ⟨hP2, hx⟩
    have hk2 : k1 + 1 ≤ p.size := by have := (List.getElem?_eq_some_iff.1 hx).1; rw [sb_len] at this; omega
    clear hP2 hx
    go_wp2_with fail
    refine (classByte_core HP2.out.1 hp hk2).mono ?_
    rintro e w5 ⟨hC5, h5⟩
    have HW5 : Hid (SetAt w5 w.heap.size w.heap.size f ∧ SetAt w5 w.heap.size (w.heap.size + 1) (fun _ => false) ∧ Chg (fun k => k = g) w w5) := ⟨BoxAt.chg HW2.out.1 hC5 (by omega), BoxAt.chg HW2.out.2.1 hC5 (by omega), HW2.out.2.2.trans hC5⟩
    clear hC5 HW2
    rcases h5 with ⟨b, k5, hk5, rfl, hP5⟩ | ⟨x, k, hk, rfl⟩
    case inr =>
      refine ⟨rfl, HW5.out.2.2, .inr ⟨2, k, ?_, rfl⟩⟩
      unfold itemM; rw [HK1.out]; simp only []; rw [if_pos HP2.out.2, hk]
    have HI : Hid (PrAt w5 base g p k5 o ∧ itemM (sb p) i = if b < a then .inr (4, i) else .inl (a, b, k5)) := by
      refine ⟨hP5, ?_⟩
      unfold itemM; rw [HK1.out]; simp only []; rw [if_pos HP2.out.2, hk5]
    clear hk5 hP5 HP2 hk2
  case' inr =>
    obtain ⟨w5, hw5⟩ : ∃ w5, w5 = w2 := ⟨_, rfl⟩
    obtain ⟨k5, hk5⟩ : ∃ k5 : Nat, k5 = k1 := ⟨_, rfl⟩
    have HW5 : Hid (SetAt w5 w.heap.size w.heap.size f ∧ SetAt w5 w.heap.size (w.heap.size + 1) (fun _ => false) ∧ Chg (fun k => k = g) w w5) := by rw [hw5]; exact HW2.out
    have HI2 : Hid (PrAt w5 base g p k5 o ∧ itemM (sb p) i = .inl (a, a, k5)) := by
      rw [hw5, hk5]
      refine ⟨hP2, ?_⟩
      unfold itemM; rw [HK1.out]; simp only []; rw [if_neg hx]
    rw [← hw5]
    clear hw5 hP2 hx HW2 hk5
  case inl =>
    clear HK1 hk1p
    by_cases hba : b < a
    · have z : (b.toNat : Int) < (a.toNat : Int) := by have := UInt8.lt_iff_toNat_lt.1 hba; omega
      go_wp2_with fail
      exact ⟨rfl, HW5.out.2.2, .inr ⟨4, i, by rw [HI.out.2, if_pos hba], rfl⟩⟩
    · have z : (a.toNat : Int) ≤ (b.toNat : Int) := by have := UInt8.le_iff_toNat_le.1 (UInt8.not_lt.1 hba); omega
      have HI2 : Hid (PrAt w5 base g p k5 o ∧ itemM (sb p) i = .inl (a, b, k5)) := ⟨HI.out.1, by rw [HI.out.2, if_neg hba]⟩
      clear HI hba
      go_wp2_with fail
      go_loopw [8] (fun bv wr => ∃ (k : Nat), a.toNat ≤ k ∧ k ≤ b.toNat + 1 ∧ bv = .int .i64 k ∧ SetAt wr w.heap.size w.heap.size (fun c => f c || (decide (a ≤ c) && decide (c.toNat < k))) ∧ SetAt wr w.heap.size (w.heap.size + 1) (fun _ => false) ∧ PrAt wr base g p k5 o ∧ Chg (fun k => k = g) w wr) (fun bv _ => 256 - (intOf bv).toNat)
      case atStart =>
        refine ⟨a.toNat, Nat.le_refl _, by omega, congrArg (Value.int .i64) (wrap64_u8 a), SetAt.ext HW5.out.1 (fun c => ?_), HW5.out.2.1, HI2.out.1, HW5.out.2.2⟩
        by_cases q : a ≤ c
        · have := UInt8.le_iff_toNat_le.1 q
          rw [decide_eq_false (show ¬ c.toNat < a.toNat by omega)]; simp
        · rw [decide_eq_false q]; simp
      case round =>
        obtain ⟨k, hk0, hk1, rfl, h1, h2, h3, h4⟩ := hrel
        have HR : Hid (SetAt wr w.heap.size w.heap.size (fun c => f c || (decide (a ≤ c) && decide (c.toNat < k))) ∧ SetAt wr w.heap.size (w.heap.size + 1) (fun _ => false) ∧ PrAt wr base g p k5 o ∧ Chg (fun k => k = g) w wr) := ⟨h1, h2, h3, h4⟩
        clear h1 h2 h3 h4 HW5
        have hb256 := UInt8.toNat_lt b
        by_cases hlt : k ≤ b.toNat
        · have z2 : (k : Int) ≤ (b.toNat : Int) := by omega
          have z3 : (k : Int) < 256 := by omega
          obtain ⟨v, hv⟩ : ∃ v, (setA (fun c => f c || (decide (a ≤ c) && decide (c.toNat < k)))).toList[k]? = some v := ⟨_, setA_get _ k (by omega)⟩
          have d0 := HR.out.1.cell hv
          have f0 := HR.out.1.frozen k
          have HN : Hid (SetAt (wr.setCell ⟨w.heap.size, k, none⟩ (.bool true)) w.heap.size w.heap.size (fun c => f c || (decide (a ≤ c) && decide (c.toNat < k + 1))) ∧ SetAt (wr.setCell ⟨w.heap.size, k, none⟩ (.bool true)) w.heap.size (w.heap.size + 1) (fun _ => false) ∧ PrAt (wr.setCell ⟨w.heap.size, k, none⟩ (.bool true)) base g p k5 o ∧ Chg (fun k => k = g) w (wr.setCell ⟨w.heap.size, k, none⟩ (.bool true))) := by
            refine ⟨?_, BoxAt.beside HR.out.2.1 (by omega) k _, BoxAt.beside HR.out.2.2.1 (by omega) k _, HR.out.2.2.2.absorb (Chg.of_set wr w.heap.size k _ (S := fun q => q = w.heap.size) rfl) (fun j q => .inr (by omega))⟩
            have h5 := HR.out.1.set k (.bool true)
            rw [setA_set _ k true (by omega)] at h5
            have hn : (UInt8.ofNat k).toNat = k := by rw [UInt8.toNat_ofNat']; omega
            refine SetAt.ext h5 (fun c => ?_)
            by_cases hc : c = UInt8.ofNat k
            · have h6 : a ≤ c := UInt8.le_iff_toNat_le.2 (by rw [hc, hn]; exact hk0)
              rw [if_pos hc, decide_eq_true h6, decide_eq_true (show c.toNat < k + 1 by rw [hc, hn]; omega)]; simp
            · rw [if_neg hc]
              have h6 : ¬ c.toNat = k := fun q => hc (UInt8.toNat_inj.1 (by rw [hn]; exact q))
              rw [show decide (c.toNat < k + 1) = decide (c.toNat < k) from decide_eq_decide.2 ⟨fun q => by omega, fun q => by omega⟩]
          clear hv HR
          go_wp2_with fail
          go_roundw
          case rel => exact ⟨k + 1, by omega, by omega, by go_num, HN.out.1, HN.out.2.1, HN.out.2.2.1, HN.out.2.2.2⟩
          case measure => simp [intOf]; omega
        · obtain rfl : k = b.toNat + 1 := by omega
          have z2 : ¬ ((b.toNat : Int) + 1) ≤ (b.toNat : Int) := by omega
          have h0 := SetAt.heap (SetAt.ext HR.out.1 (f' := wider f a b) (fun c => by
            unfold wider
            rw [show decide (c.toNat < b.toNat + 1) = decide (c ≤ b) from decide_eq_decide.2 ⟨fun q => UInt8.le_iff_toNat_le.2 (by omega), fun q => by have := UInt8.le_iff_toNat_le.1 q; omega⟩]))
          have h1 := SetAt.heap HR.out.2.1
          have HC : Hid (Chg (fun k => k = g) w (wr.setRow (w.heap.size + 1) (setA (wider f a b))) ∧ PrAt (wr.setRow (w.heap.size + 1) (setA (wider f a b))) base g p k5 o) := by
            have hc := chg_setRow wr (w.heap.size + 1) (setA (wider f a b))
            exact ⟨HR.out.2.2.2.absorb hc (fun j q => .inr (by omega)), BoxAt.chg HR.out.2.2.1 hc (by omega)⟩
          have hi : (Try.prog.info? 195).map (·.size) = some 256 := (zero_of_info info_set).2
          clear HR
          go_upto_region 12 with fail
          apply wp_region_list
          refine wpList_load_row rfl 195 _ rfl w.heap.size rfl 195 (setA (wider f a b)) (0, 0) _ h0 Try.underlying195 rfl (by rw [setA_size]; exact hi) ?_
          refine wpList_store_row rfl 195 _ _ rfl (w.heap.size + 1) (setA (wider f a b)) rfl rfl 195 (setA (fun _ => false)) h1 (by rw [setA_size]; exact hi) (by rw [setA_size, setA_size]) (setA_one _) ?_
          have hr := setRow_heap _ _ _ (setA (wider f a b)) _ _ h1
          obtain ⟨W2, hW2⟩ : ∃ W2, W2 = wr.setRow (w.heap.size + 1) (setA (wider f a b)) := ⟨_, rfl⟩
          rw [← hW2] at HC hr ⊢
          clear hW2 h0 h1
          apply wpList_nil
          go_wp2_with fail
          refine bodyPost_ret (v := .agg (setA (wider f a b))) (results_cell_row rfl _ _ (w.heap.size + 1) _ _ _ _ rfl hr Try.underlying195 rfl (by rw [setA_size]; exact hi)) rfl ⟨HC.out.1, .inl ⟨a, b, k5, HI2.out.2, rfl, HC.out.2⟩⟩
  case inr =>
    clear HK1 hk1p
    go_wp2_with fail
    go_loopw [8] (fun bv wr => ∃ (k : Nat), a.toNat ≤ k ∧ k ≤ a.toNat + 1 ∧ bv = .int .i64 k ∧ SetAt wr w.heap.size w.heap.size (fun c => f c || (decide (a ≤ c) && decide (c.toNat < k))) ∧ SetAt wr w.heap.size (w.heap.size + 1) (fun _ => false) ∧ PrAt wr base g p k5 o ∧ Chg (fun k => k = g) w wr) (fun bv _ => 256 - (intOf bv).toNat)
    case atStart =>
      refine ⟨a.toNat, Nat.le_refl _, by omega, congrArg (Value.int .i64) (wrap64_u8 a), SetAt.ext HW5.out.1 (fun c => ?_), HW5.out.2.1, HI2.out.1, HW5.out.2.2⟩
      by_cases q : a ≤ c
      · have := UInt8.le_iff_toNat_le.1 q
        rw [decide_eq_false (show ¬ c.toNat < a.toNat by omega)]; simp
      · rw [decide_eq_false q]; simp
    case round =>
      obtain ⟨k, hk0, hk1, rfl, h1, h2, h3, h4⟩ := hrel
      have HR : Hid (SetAt wr w.heap.size w.heap.size (fun c => f c || (decide (a ≤ c) && decide (c.toNat < k))) ∧ SetAt wr w.heap.size (w.heap.size + 1) (fun _ => false) ∧ PrAt wr base g p k5 o ∧ Chg (fun k => k = g) w wr) := ⟨h1, h2, h3, h4⟩
      clear h1 h2 h3 h4 HW5
      have hb256 := UInt8.toNat_lt a
      by_cases hlt : k ≤ a.toNat
      · have z2 : (k : Int) ≤ (a.toNat : Int) := by omega
        have z3 : (k : Int) < 256 := by omega
        obtain ⟨v, hv⟩ : ∃ v, (setA (fun c => f c || (decide (a ≤ c) && decide (c.toNat < k)))).toList[k]? = some v := ⟨_, setA_get _ k (by omega)⟩
        have d0 := HR.out.1.cell hv
        have f0 := HR.out.1.frozen k
        have HN : Hid (SetAt (wr.setCell ⟨w.heap.size, k, none⟩ (.bool true)) w.heap.size w.heap.size (fun c => f c || (decide (a ≤ c) && decide (c.toNat < k + 1))) ∧ SetAt (wr.setCell ⟨w.heap.size, k, none⟩ (.bool true)) w.heap.size (w.heap.size + 1) (fun _ => false) ∧ PrAt (wr.setCell ⟨w.heap.size, k, none⟩ (.bool true)) base g p k5 o ∧ Chg (fun k => k = g) w (wr.setCell ⟨w.heap.size, k, none⟩ (.bool true))) := by
          refine ⟨?_, BoxAt.beside HR.out.2.1 (by omega) k _, BoxAt.beside HR.out.2.2.1 (by omega) k _, HR.out.2.2.2.absorb (Chg.of_set wr w.heap.size k _ (S := fun q => q = w.heap.size) rfl) (fun j q => .inr (by omega))⟩
          have h5 := HR.out.1.set k (.bool true)
          rw [setA_set _ k true (by omega)] at h5
          have hn : (UInt8.ofNat k).toNat = k := by rw [UInt8.toNat_ofNat']; omega
          refine SetAt.ext h5 (fun c => ?_)
          by_cases hc : c = UInt8.ofNat k
          · have h6 : a ≤ c := UInt8.le_iff_toNat_le.2 (by rw [hc, hn]; exact hk0)
            rw [if_pos hc, decide_eq_true h6, decide_eq_true (show c.toNat < k + 1 by rw [hc, hn]; omega)]; simp
          · rw [if_neg hc]
            have h6 : ¬ c.toNat = k := fun q => hc (UInt8.toNat_inj.1 (by rw [hn]; exact q))
            rw [show decide (c.toNat < k + 1) = decide (c.toNat < k) from decide_eq_decide.2 ⟨fun q => by omega, fun q => by omega⟩]
        clear hv HR
        go_wp2_with fail
        go_roundw
        case rel => exact ⟨k + 1, by omega, by omega, by go_num, HN.out.1, HN.out.2.1, HN.out.2.2.1, HN.out.2.2.2⟩
        case measure => simp [intOf]; omega
      · obtain rfl : k = a.toNat + 1 := by omega
        have z2 : ¬ ((a.toNat : Int) + 1) ≤ (a.toNat : Int) := by omega
        have h0 := SetAt.heap (SetAt.ext HR.out.1 (f' := wider f a a) (fun c => by
          unfold wider
          rw [show decide (c.toNat < a.toNat + 1) = decide (c ≤ a) from decide_eq_decide.2 ⟨fun q => UInt8.le_iff_toNat_le.2 (by omega), fun q => by have := UInt8.le_iff_toNat_le.1 q; omega⟩]))
        have h1 := SetAt.heap HR.out.2.1
        have HC : Hid (Chg (fun k => k = g) w (wr.setRow (w.heap.size + 1) (setA (wider f a a))) ∧ PrAt (wr.setRow (w.heap.size + 1) (setA (wider f a a))) base g p k5 o) := by
          have hc := chg_setRow wr (w.heap.size + 1) (setA (wider f a a))
          exact ⟨HR.out.2.2.2.absorb hc (fun j q => .inr (by omega)), BoxAt.chg HR.out.2.2.1 hc (by omega)⟩
        have hi : (Try.prog.info? 195).map (·.size) = some 256 := (zero_of_info info_set).2
        clear HR
        go_upto_region 12 with fail
        apply wp_region_list
        refine wpList_load_row rfl 195 _ rfl w.heap.size rfl 195 (setA (wider f a a)) (0, 0) _ h0 Try.underlying195 rfl (by rw [setA_size]; exact hi) ?_
        refine wpList_store_row rfl 195 _ _ rfl (w.heap.size + 1) (setA (wider f a a)) rfl rfl 195 (setA (fun _ => false)) h1 (by rw [setA_size]; exact hi) (by rw [setA_size, setA_size]) (setA_one _) ?_
        have hr := setRow_heap _ _ _ (setA (wider f a a)) _ _ h1
        obtain ⟨W2, hW2⟩ : ∃ W2, W2 = wr.setRow (w.heap.size + 1) (setA (wider f a a)) := ⟨_, rfl⟩
        rw [← hW2] at HC hr ⊢
        clear hW2 h0 h1
        apply wpList_nil
        go_wp2_with fail
        refine bodyPost_ret (v := .agg (setA (wider f a a))) (results_cell_row rfl _ _ (w.heap.size + 1) _ _ _ _ rfl hr Try.underlying195 rfl (by rw [setA_size]; exact hi)) rfl ⟨HC.out.1, .inl ⟨a, a, k5, HI2.out.2, rfl, HC.out.2⟩⟩
end Go.Proofs.Ythkmecppjhcidac
