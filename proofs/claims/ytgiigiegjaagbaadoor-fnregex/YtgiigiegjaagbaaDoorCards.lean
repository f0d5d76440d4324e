/-
  DERIVED. GIVEN WITH THE SEED: THE CARDS: each row of YtgiigiegjaagbaaDoorRows.lean that lists a variable, with what it lists TIED to the program's text (the seventh form; the later family's looks); each row that meets fmt, with fmt's text TOLD by the authors' own Lean function (tested against real Go, not proved from fmt's source: count such statements apart). THE CARD IS WHAT COUNTS. Prove the row's statement (the work); the ties are given (YtgiigiegjaagbaaDoorTie.lean); close each card by the builder's one call (the guide's Derived/Test/ToyasCard.lean, 'card_holds'). Laid BY PROGRAM, IN A SANDBOX (cutbox-door.mjs). By AI agents, Wed Nov 11 2026. No macro, syntax, notation, axiom, sorry.
-/
import Derived.Test.YtgiigiegjaagbaaDoorRows
import GoSem.ClaimSeven
namespace Go.Proofs.YtgiigiegjaagbaaDoor
namespace Rows

/-- THE TIED CARD OF 'laws.FnRegex'. -/
def fnRegexCard : Claim7 := { stood := { row := fnRegexRow, standIns := [], harness := (true, "851f039bd89749696204cfb453b8fc6dbfae13ac268703ade5c93fdcf7cd4552"), looks := true }, kinds := [], alts := [], laidByText := true, laidKinds := [.data], laidTests := true, laidLooks := .later }
def FnRegexCardSaid : Prop := Claim7.holds Tryd.pinned (.plain (OpenSpec.ofChange fnRegexSpec)) fnRegexCard

/-- THE SECOND FORM's CARD OF 'laws.FnRegex'. -/
def fnRegexUptoCard : Claim7 := { stood := { row := fnRegexUptoRow, standIns := [], harness := (true, "851f039bd89749696204cfb453b8fc6dbfae13ac268703ade5c93fdcf7cd4552"), looks := true }, kinds := [], alts := [], laidByText := true, laidKinds := [.data], laidTests := true, laidLooks := .later }
def FnRegexUptoCardSaid : Prop := Claim7.holds Tryd.pinned (.plain (OpenSpec.upto fnRegexSpec)) fnRegexUptoCard
end Rows
end Go.Proofs.YtgiigiegjaagbaaDoor
