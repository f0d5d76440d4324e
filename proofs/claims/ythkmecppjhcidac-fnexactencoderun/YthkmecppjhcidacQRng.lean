/-
  Ranges by value: the contracts of szRange, toRange, spec.InRange, impl.InRange.
-/
import Derived.Test.YthkmecppjhcidacQOpen
namespace Go.Proofs.Ythkmecppjhcidac
open Go.ChangeShapes Go.WideShapes Go.ChangeAt Go.RowKit Go.Deep

/-- Whether a row is in a range. -/
def inR (lo : ByteArray) (hh : Bool) (hi row : ByteArray) : Bool := !Op.bytesLess row.toList lo.toList && (!hh || Op.bytesLess row.toList hi.toList)

end Go.Proofs.Ythkmecppjhcidac
