/-
  A run beside what is changed.
-/
import Derived.Test.YtlgeffinhbodeacQChg
import Derived.Test.YtlgeffinhbodeacQRms
namespace Go.Proofs.Ytlgeffinhbodeac
set_option linter.unusedVariables false
theorem Rm.at.chg {S : Nat → Prop} {w w' : World} {r : Rm} (h : r.at w) (hb : Chg S w w') (hn : ¬ S r.b) : r.at w' := ⟨h.ents.chg hb h.lt hn, by have := hb.size; have := h.lt; omega, h.len, h.cap⟩
end Go.Proofs.Ytlgeffinhbodeac
