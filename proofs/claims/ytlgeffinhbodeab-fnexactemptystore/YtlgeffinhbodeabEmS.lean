/-
  EmptyStore of both.
-/
import Derived.Test.YtlgeffinhbodeabMkT3
namespace Go.Proofs.Ytlgeffinhbodeab
open Go.ChangeShapes Go.WideShapes Go.ChangeAt Go.RowKit Go.Deep
set_option linter.unusedVariables false
set_option linter.unusedSimpArgs false
set_option maxRecDepth 100000

/-- A row of one tablet, just made. -/
theorem ownP_new (w : World) (base : Nat) (hb : base ≤ w.heap.size) (x : Value) : OwnP (w.alloc (Obj.cells #[.string ⟨#[]⟩, x] 72)) base w.heap.size 1 [(⟨#[]⟩, x)] :=
  ⟨rfl, .inr ⟨w.heap.size, 1, #[.string ⟨#[]⟩, x], rfl, hb, by rw [show (w.alloc (Obj.cells #[.string ⟨#[]⟩, x] 72)).heap = w.heap.push (Obj.cells #[.string ⟨#[]⟩, x] 72) from rfl]; exact Array.getElem?_push_size, Nat.le_refl _, by unfold maxLen; omega, rfl, rfl⟩⟩

set_option maxHeartbeats 2000000 in
theorem implEmpty_core (w : World) :
    Calls Try.prog 18 #[] w fun e w' => ∃ g, e = .returned (.agg #[.slice (some ⟨g, 0, none⟩) 1 1]) ∧ OwnSt w' w.heap.size (.slice (some ⟨g, 0, none⟩) 1 1) [⟨⟨#[]⟩, .slice none 0 0, []⟩] ∧ Below w.heap.size w w' := by
  have HN : ∀ w1 : World, w.heap.size ≤ w1.heap.size → Hid (OwnSt (w1.alloc (Obj.cells #[.string ⟨#[]⟩, .slice none 0 0] 72)) w.heap.size (.slice (some ⟨w1.heap.size, 0, none⟩) 1 1) [⟨⟨#[]⟩, .slice none 0 0, []⟩]) := fun w1 h1 =>
    ⟨.inr ⟨w1.heap.size, 1, rfl, ownP_new w1 _ h1 _⟩, fun t ht => (by simp at ht; subst ht; exact .inl ⟨rfl, _, _, rfl⟩), fun t ht r hr => (by simp at ht; subst ht; simp at hr)⟩
  have h1 := HN (w.alloc (Obj.cells #[.slice (some ⟨w.heap.size + 1, 0, none⟩) 1 1] 42)) (by simp)
  rw [show (w.alloc (Obj.cells #[.slice (some ⟨w.heap.size + 1, 0, none⟩) 1 1] 42)).heap.size = w.heap.size + 1 by simp] at h1
  clear HN
  go_enter Try.func18, Try.ntmps18
  go_wp2
  refine bodyPost_ret (v := .agg #[.slice (some ⟨w.heap.size + 1, 0, none⟩) 1 1]) (by simp [results, Try.results18, go_sem]) rfl ⟨_, rfl, h1.out, ?_⟩
  exact ((Below.refl _ _).alloc (Nat.le_refl _) _).alloc (by simp) _
set_option maxHeartbeats 2000000 in
theorem specEmpty_core (w : World) :
    Calls Try.prog 17 #[] w fun e w' => ∃ g, e = .returned (.agg #[.slice (some ⟨g, 0, none⟩) 1 1]) ∧ InTabs w' (.slice (some ⟨g, 0, none⟩) 1 1) [⟨⟨#[]⟩, .slice (some ⟨w.heap.size + 1, 0, none⟩) 0 0, []⟩] ∧ Below w.heap.size w w' := by
  have HN : ∀ w1 : World, Hid (InTabs (w1.alloc (Obj.cells #[.string ⟨#[]⟩, .slice (some ⟨w.heap.size + 1, 0, none⟩) 0 0] 72)) (.slice (some ⟨w1.heap.size, 0, none⟩) 1 1) [⟨⟨#[]⟩, .slice (some ⟨w.heap.size + 1, 0, none⟩) 0 0, []⟩]) := fun w1 => by
    have hO := ownP_new w1 0 (Nat.zero_le _) (.slice (some ⟨w.heap.size + 1, 0, none⟩) 0 0)
    refine .inr ⟨w1.heap.size, 0, 1, rfl, fun i t ht => ?_, by simp, by simp, by unfold maxLen; omega⟩
    have hi : i = 0 := by have := (List.getElem?_eq_some_iff.1 ht).1; simp at this; omega
    subst hi
    simp at ht
    subst ht
    obtain ⟨c0, c1⟩ := hO.cells (i := 0) rfl
    exact ⟨c0, c1, .inl ⟨_, _, rfl, rfl⟩⟩
  have h1 := HN ((w.alloc (Obj.cells #[.slice (some ⟨w.heap.size + 1 + 1, 0, none⟩) 1 1] 42)).alloc (Obj.cells #[] 29))
  rw [show ((w.alloc (Obj.cells #[.slice (some ⟨w.heap.size + 1 + 1, 0, none⟩) 1 1] 42)).alloc (Obj.cells #[] 29)).heap.size = w.heap.size + 1 + 1 by simp] at h1
  clear HN
  go_enter Try.func17, Try.ntmps17
  go_wp2
  refine bodyPost_ret (v := .agg #[.slice (some ⟨w.heap.size + 1 + 1, 0, none⟩) 1 1]) (by simp [results, Try.results17, go_sem]) rfl ⟨_, rfl, h1.out, ?_⟩
  exact (((Below.refl _ _).alloc (Nat.le_refl _) _).alloc (by simp) _).alloc (by simp; omega) _
end Go.Proofs.Ytlgeffinhbodeab
