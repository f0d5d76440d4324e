/-
  DERIVED. GIVEN WITH THE SEED: THE CARDS: each row of YtddemgkbfdhpnaaDoorRows.lean that lists a variable, with what it lists TIED to the program's text (the seventh form; the later family's looks); each row that meets fmt, with fmt's text TOLD by the authors' own Lean function (tested against real Go, not proved from fmt's source: count such statements apart). THE CARD IS WHAT COUNTS. Prove the row's statement (the work); the ties are given (YtddemgkbfdhpnaaDoorTie.lean); close each card by the builder's one call (the guide's Derived/Test/ToyasCard.lean, 'card_holds'). Laid BY PROGRAM, IN A SANDBOX (cutbox-door.mjs). By AI agents, Wed Nov 11 2026. No macro, syntax, notation, axiom, sorry.
-/
import Derived.Test.YtddemgkbfdhpnaaDoorRows
import GoSem.ClaimSeven
namespace Go.Proofs.YtddemgkbfdhpnaaDoor
namespace Rows

/-- THE TIED CARD OF 'laws.FnExactPrintFilter'. -/
def fnExactPrintFilterCard : Claim7 := { stood := { row := fnExactPrintFilterRow, standIns := [], harness := (true, "be09015a57e6ae67d72e9a8e646667b3247f014a764359e863e45dd9e22c16ad"), looks := true }, kinds := [], alts := [], laidByText := true, laidKinds := [.data, .data, .data, .data], laidTests := true, laidLooks := .later }
def FnExactPrintFilterCardSaid : Prop := Claim7.holds Tryd.pinned (.plain (OpenSpec.ofChange fnExactPrintFilterSpec)) fnExactPrintFilterCard

/-- THE SECOND FORM's CARD OF 'laws.FnExactPrintFilter'. -/
def fnExactPrintFilterUptoCard : Claim7 := { stood := { row := fnExactPrintFilterUptoRow, standIns := [], harness := (true, "be09015a57e6ae67d72e9a8e646667b3247f014a764359e863e45dd9e22c16ad"), looks := true }, kinds := [], alts := [], laidByText := true, laidKinds := [.data, .data, .data, .data], laidTests := true, laidLooks := .later }
def FnExactPrintFilterUptoCardSaid : Prop := Claim7.holds Tryd.pinned (.plain (OpenSpec.upto fnExactPrintFilterSpec)) fnExactPrintFilterUptoCard
end Rows
end Go.Proofs.YtddemgkbfdhpnaaDoor
