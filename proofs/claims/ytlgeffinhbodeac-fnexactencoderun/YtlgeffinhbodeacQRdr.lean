/-
  impl.demand, (*impl.byteReader).take, end.
-/
import Derived.Test.YtlgeffinhbodeacQBysA
import Derived.Test.YtlgeffinhbodeacQBox
import Derived.Test.YtlgeffinhbodeacQGetM
import Derived.WalkLawsBesides
import Derived.Test.YtlgeffinhbodeacQPq
import Derived.Test.YtlgeffinhbodeacQSub
namespace Go.Proofs.Ytlgeffinhbodeac
open Go.ChangeShapes Go.WideShapes Go.ChangeAt Go.RowKit Go.Deep
set_option linter.unusedVariables false
set_option linter.unusedSimpArgs false
set_option maxRecDepth 100000

theorem slots1 {a' : Act} {s : Tmp} {x : Value} (h : a'.tmps.getD s undef = x) : ∀ p ∈ [(s, x)], a'.tmps.getD p.1 undef = p.2 := by
  intro p hp
  rcases List.mem_cons.1 hp with rfl | hp
  · exact h
  · cases hp
theorem slots2 {a' : Act} {s t : Tmp} {x y : Value} (h : a'.tmps.getD s undef = x) (h2 : a'.tmps.getD t undef = y) : ∀ p ∈ [(s, x), (t, y)], a'.tmps.getD p.1 undef = p.2 := by
  intro p hp
  rcases List.mem_cons.1 hp with rfl | hp
  · exact h
  · exact slots1 h2 p hp

theorem BysAt.chgR {S : Nat → Prop} {w w' : World} {b off : Nat} {xs : List UInt8} (h : BysAt w b off xs) (hc : Chg S w w') (hlt : b < w.heap.size) (hn : ¬ S b) : BysAt w' b off xs := by
  intro i x hx
  rw [hc.cell (p := ⟨b, off + i, none⟩) hlt hn]
  exact h i x hx
theorem BysAt.drop {w : World} {b off : Nat} {xs : List UInt8} (h : BysAt w b off xs) (n : Nat) : BysAt w b (off + n) (xs.drop n) := by
  intro i x hx
  rw [List.getElem?_drop] at hx
  have := h (n + i) x hx
  rw [Nat.add_assoc]; exact this
theorem BysAt.take {w : World} {b off : Nat} {xs : List UInt8} (h : BysAt w b off xs) (n : Nat) : BysAt w b off (xs.take n) := by
  intro i x hx
  have hi := (List.getElem?_eq_some_iff.1 hx).1
  rw [List.length_take] at hi
  rw [List.getElem?_take_of_lt (by omega)] at hx
  exact h i x hx
theorem Chg.drew {S : Nat → Prop} {a w : World} (h : Chg S a w) : Chg S a w.drew := h.trans ⟨rfl, rfl, rfl, Nat.le_refl _, fun _ _ _ => rfl⟩

theorem wrap_u64 {n : Nat} (h : n < 2 ^ 64) : IntKind.u64.wrap (n : Int) = (n : Int) := by
  simp only [IntKind.wrap, IntKind.bits, IntKind.signed, Bool.false_and, Bool.false_eq_true, if_false]
  omega
end Go.Proofs.Ytlgeffinhbodeac
