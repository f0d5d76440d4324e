/-
  Ranges by value: the contracts of szRange, toRange, spec.InRange, impl.InRange.
-/
import Derived.Test.YtlgeffinhbodeaeQOpen
namespace Go.Proofs.Ytlgeffinhbodeae
open Go.ChangeShapes Go.WideShapes Go.ChangeAt Go.RowKit Go.Deep

/-- Whether a row is in a range. -/
def inR (lo : ByteArray) (hh : Bool) (hi row : ByteArray) : Bool := !Op.bytesLess row.toList lo.toList && (!hh || Op.bytesLess row.toList hi.toList)

set_option maxHeartbeats 400000 in
theorem specInRange_core (lo hi row : ByteArray) (hh : Bool) (w : World) :
    Calls Try.prog 42 #[.agg #[.string lo, .bool hh, .string hi], .string row] w fun e w' =>
      e = .returned (.bool (inR lo hh hi row)) ∧ Below w.heap.size w w' := by
  unfold inR
  cases hb : Op.bytesLess row.toList lo.toList <;> cases hh
  all_goals
    go_enter Try.func42, Try.ntmps42
    go_wp2
    go_ret
    exact ⟨by simp, (Below.refl _ _).alloc (Nat.le_refl _) _⟩

end Go.Proofs.Ytlgeffinhbodeae
