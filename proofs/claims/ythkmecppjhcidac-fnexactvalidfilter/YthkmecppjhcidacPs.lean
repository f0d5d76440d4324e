/-
  Sets of bytes; (impl.byteSet).opposite.
-/
import Derived.Test.YthkmecppjhcidacPr
import Derived.Laws.Tables
import Derived.Laws.Rows
import Derived.Deep.WholeRow
namespace Go.Proofs.Ythkmecppjhcidac
open Go.ChangeShapes Go.WideShapes Go.ChangeAt Go.RowKit Go.Deep
set_option linter.unusedVariables false
set_option linter.unusedSimpArgs false
set_option maxRecDepth 100000

theorem setA_some : ∃ F : (UInt8 → Bool) → Array Value, ∀ f, F f = Array.ofFn (n := 256) fun i => .bool (f (UInt8.ofNat i.val)) := ⟨_, fun _ => rfl⟩
/-- A set of bytes as the program has it. (Behind 'choose': so that no unification opens its 256 cells.) -/
noncomputable def setA (f : UInt8 → Bool) : Array Value := Classical.choose setA_some f
theorem setA_eq (f : UInt8 → Bool) : setA f = Array.ofFn (n := 256) fun i => .bool (f (UInt8.ofNat i.val)) := Classical.choose_spec setA_some f
theorem setA_size (f : UInt8 → Bool) : (setA f).size = 256 := by rw [setA_eq]; simp
theorem info_set : (Try.prog.info? 195).map (fun i => (i.zero, i.size)) = some (some (.agg (Array.replicate 256 (.bool false))), 256) := by kernel_rfl
theorem setA_none : setA (fun _ => false) = Array.replicate 256 (.bool false) := by
  rw [setA_eq]
  apply Array.ext
  · simp
  · intro i h1 h2
    simp
theorem setA_at (f : UInt8 → Bool) (i : Nat) (h : i < 256) : (setA f)[i]? = some (.bool (f (UInt8.ofNat i))) := by
  rw [setA_eq, Array.getElem?_eq_getElem (by simp; exact h)]
  simp only [Array.getElem_ofFn]
theorem setA_one (f : UInt8 → Bool) : (setA f).all (·.oneCell') = true := by
  rw [setA_eq, Array.all_eq_true_iff_forall_mem]
  intro v hv
  obtain ⟨i, hi, rfl⟩ := Array.getElem_of_mem hv
  simp only [Array.getElem_ofFn]
  rfl
theorem BoxAt.heap {w : World} {base t sz g : Nat} {vs : List Value} (h : BoxAt w base t sz g vs) : w.heap[g]? = some (.cells vs.toArray t (0, 0)) := by
  rcases h.2 with ⟨h0, _⟩ | ⟨g', cap, cur, hv, _, hc, _, _, hsz, htk⟩
  · cases h0
  · simp only [Value.slice.injEq, Option.some.injEq, Addr.mk.injEq, and_true, true_and] at hv
    obtain ⟨rfl, rfl⟩ := hv
    rw [hc]
    rw [List.take_of_length_le (by simp [hsz])] at htk
    rw [← htk]
theorem BoxAt.ofHeap {w : World} {base t sz g : Nat} {vs : Array Value} (h : w.heap[g]? = some (.cells vs t (0, 0))) (hb : base ≤ g) (hs : vs.size = sz) : BoxAt w base t sz g vs.toList := by
  refine ⟨by simp [hs], .inr ⟨g, 1, vs, rfl, hb, h, Nat.le_refl _, by decide, by omega, ?_⟩⟩
  rw [List.take_of_length_le (by simp [hs])]
/-- A set of bytes in memory. -/
abbrev SetAt (w : World) (base g : Nat) (f : UInt8 → Bool) : Prop := BoxAt w base 195 256 g (setA f).toList
theorem SetAt.heap {w : World} {base g : Nat} {f : UInt8 → Bool} (h : SetAt w base g f) : w.heap[g]? = some (.cells (setA f) 195 (0, 0)) := by
  have h1 := BoxAt.heap h
  rw [Array.toArray_toList] at h1
  exact h1
theorem SetAt.ext {w : World} {base g : Nat} {f f' : UInt8 → Bool} (h : SetAt w base g f) (he : ∀ c, f c = f' c) : SetAt w base g f' := by
  rw [show f' = f from funext fun c => (he c).symm]; exact h
theorem setA_get (f : UInt8 → Bool) (k : Nat) (h : k < 256) : (setA f).toList[k]? = some (.bool (f (UInt8.ofNat k))) := by
  rw [Array.getElem?_toList]; exact setA_at f k h
theorem ofNat_eq {i k : Nat} (hi : i < 256) (hk : k < 256) (h : UInt8.ofNat i = UInt8.ofNat k) : i = k := by
  have := congrArg UInt8.toNat h
  rw [UInt8.toNat_ofNat', UInt8.toNat_ofNat'] at this
  omega
theorem setA_set (f : UInt8 → Bool) (k : Nat) (b : Bool) (hk : k < 256) : (setA f).toList.set k (.bool b) = (setA (fun c => if c = UInt8.ofNat k then b else f c)).toList := by
  apply List.ext_getElem?
  intro i
  rw [List.getElem?_set]
  by_cases h : k = i
  · subst h
    rw [if_pos rfl, if_pos (by simp [setA_size]; exact hk), setA_get _ _ hk, if_pos rfl]
  · rw [if_neg h]
    by_cases hi : i < 256
    · rw [setA_get _ _ hi, setA_get _ _ hi, if_neg (fun q => h (ofNat_eq hi hk q).symm)]
    · rw [List.getElem?_eq_none (by simp [setA_size]; omega), List.getElem?_eq_none (by simp [setA_size]; omega)]
theorem setA_ext {f g : UInt8 → Bool} (h : ∀ c, f c = g c) : setA f = setA g := by rw [show f = g from funext h]
theorem Below.setRow' {B : Nat} {a w : World} (h : Below B a w) {g : Nat} (hg : B ≤ g) (cs : Array Value) : Below B a (w.setRow g cs) :=
  h.trans ⟨rfl, rfl, rfl, by simp, fun k hk => setRow_other w g k cs (by omega)⟩

set_option maxHeartbeats 2000000 in
theorem opposite_core (f : UInt8 → Bool) (w : World) :
    Calls Try.prog 137 #[.agg (setA f)] w fun e w' => e = .returned (.agg (setA (fun c => !f c))) ∧ Below w.heap.size w w' := by
  have hzv := (zero_of_info info_set).1
  go_enter Try.func137, Try.ntmps137
  go_wp2_with fail
  clear hzv
  rw [← setA_none]
  obtain ⟨W, hW⟩ : ∃ W, W = (w.alloc (.cells (setA f) 195)).alloc (.cells (setA (fun _ => false)) 195) := ⟨_, rfl⟩
  have HW : Hid (SetAt W w.heap.size w.heap.size f ∧ SetAt W w.heap.size (w.heap.size + 1) (fun _ => false) ∧ Below w.heap.size w W) := by
    rw [hW]
    refine ⟨BoxAt.ofHeap (heap_alloc2_old w _ _) (Nat.le_refl _) (setA_size _), BoxAt.ofHeap (heap_alloc2_new w _ _) (by omega) (setA_size _), ((Below.refl _ _).alloc (Nat.le_refl _) _).alloc (by simp) _⟩
  rw [← hW]
  clear hW
  go_loopw [4] (fun i wr => ∃ (k : Nat), k ≤ 256 ∧ i = .int .i64 k ∧ SetAt wr w.heap.size w.heap.size (fun c => if c.toNat < k then !f c else f c) ∧ SetAt wr w.heap.size (w.heap.size + 1) (fun _ => false) ∧ Below w.heap.size w wr) (fun i _ => 256 - (intOf i).toNat)
  case atStart =>
    refine ⟨0, Nat.zero_le _, rfl, ?_, HW.out.2.1, HW.out.2.2⟩
    exact SetAt.ext HW.out.1 (fun c => by rw [if_neg (by omega)])
  case round =>
    obtain ⟨k, hk, rfl, h1, h2, h3⟩ := hrel
    have HR : Hid (SetAt wr w.heap.size w.heap.size (fun c => if c.toNat < k then !f c else f c) ∧ SetAt wr w.heap.size (w.heap.size + 1) (fun _ => false) ∧ Below w.heap.size w wr) := ⟨h1, h2, h3⟩
    clear h1 h2 h3 HW
    by_cases hlt : k < 256
    · have z : (k : Int) < 256 := by omega
      obtain ⟨b, hb⟩ : ∃ b, b = f (UInt8.ofNat k) := ⟨_, rfl⟩
      have hn : (UInt8.ofNat k).toNat = k := by rw [UInt8.toNat_ofNat']; omega
      have d0 : wr.cell? ⟨w.heap.size, k, none⟩ = some (.bool b) := by
        have := HR.out.1.cell (setA_get _ k hlt)
        rw [hn, if_neg (Nat.lt_irrefl _), ← hb] at this
        exact this
      have f0 := HR.out.1.frozen k
      have HN : Hid (SetAt (wr.setCell ⟨w.heap.size, k, none⟩ (.bool (!b))) w.heap.size w.heap.size (fun c => if c.toNat < k + 1 then !f c else f c) ∧ SetAt (wr.setCell ⟨w.heap.size, k, none⟩ (.bool (!b))) w.heap.size (w.heap.size + 1) (fun _ => false) ∧ Below w.heap.size w (wr.setCell ⟨w.heap.size, k, none⟩ (.bool (!b)))) := by
        refine ⟨?_, HR.out.2.1.beside (by omega) k _, below_set HR.out.2.2 (Nat.le_refl _) k _⟩
        have h4 := HR.out.1.set k (.bool (!b))
        rw [setA_set _ k (!b) hlt] at h4
        refine SetAt.ext h4 ?_
        · intro c
          by_cases hc : c = UInt8.ofNat k
          · rw [if_pos hc, hc, hn, if_pos (by omega), hb]
          · rw [if_neg hc]
            have : ¬ c.toNat = k := fun q => hc (UInt8.toNat_inj.1 (by rw [hn]; exact q))
            by_cases h5 : c.toNat < k
            · rw [if_pos h5, if_pos (by omega)]
            · rw [if_neg h5, if_neg (by omega)]
      clear hb hn HR
      go_wp2_with fail
      go_roundw
      case rel => exact ⟨k + 1, by omega, by go_num, HN.out.1, HN.out.2.1, HN.out.2.2⟩
      case measure => simp [intOf]; omega
    · obtain rfl : k = 256 := by omega
      have h0 := SetAt.heap (SetAt.ext HR.out.1 (f' := fun c => !f c) (fun c => if_pos (UInt8.toNat_lt c)))
      have h1 := SetAt.heap HR.out.2.1
      have hB : Below w.heap.size w (wr.setRow (w.heap.size + 1) (setA (fun c => !f c))) := Below.setRow' HR.out.2.2 (by omega) _
      have hi : (Try.prog.info? 195).map (·.size) = some 256 := (zero_of_info info_set).2
      clear HR
      go_upto_region 6 with fail
      apply wp_region_list
      refine wpList_load_row rfl 195 _ rfl w.heap.size rfl 195 (setA (fun c => !f c)) (0, 0) _ h0 Try.underlying195 rfl (by rw [setA_size]; exact hi) ?_
      refine wpList_store_row rfl 195 _ _ rfl (w.heap.size + 1) (setA (fun c => !f c)) rfl rfl 195 (setA (fun _ => false)) h1 (by rw [setA_size]; exact hi) (by rw [setA_size, setA_size]) (setA_one _) ?_
      have hr := setRow_heap _ _ _ (setA (fun c => !f c)) _ _ h1
      obtain ⟨W2, hW2⟩ : ∃ W2, W2 = wr.setRow (w.heap.size + 1) (setA (fun c => !f c)) := ⟨_, rfl⟩
      rw [← hW2] at hB hr ⊢
      clear hW2 h0 h1
      apply wpList_nil
      go_wp2_with fail
      refine bodyPost_ret (v := .agg (setA (fun c => !f c))) (results_cell_row rfl _ _ (w.heap.size + 1) _ _ _ _ rfl hr Try.underlying195 rfl (by rw [setA_size]; exact hi)) rfl ⟨rfl, hB⟩

end Go.Proofs.Ythkmecppjhcidac
