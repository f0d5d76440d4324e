/-
  DERIVED. GIVEN WITH THE SEED: THE CARDS: each row of YtbjbdidcnkamaaaDoorRows.lean that lists a variable, with what it lists TIED to the program's text (the seventh form; the later family's looks); each row that meets fmt, with fmt's text TOLD by the authors' own Lean function (tested against real Go, not proved from fmt's source: count such statements apart). THE CARD IS WHAT COUNTS. Prove the row's statement (the work); the ties are given (YtbjbdidcnkamaaaDoorTie.lean); close each card by the builder's one call (the guide's Derived/Test/ToyasCard.lean, 'card_holds'). Laid BY PROGRAM, IN A SANDBOX (cutbox-door.mjs). By AI agents, Wed Nov 11 2026. No macro, syntax, notation, axiom, sorry.
-/
import Derived.Test.YtbjbdidcnkamaaaDoorRows
import GoSem.ClaimSeven
namespace Go.Proofs.YtbjbdidcnkamaaaDoor
namespace Rows

/-- THE TIED CARD OF 'laws.FnExactMatchRegex'. -/
def fnExactMatchRegexCard : Claim7 := { stood := { row := fnExactMatchRegexRow, standIns := [], harness := (true, "738cfaa58cf24821b627b819a361614ffed2b24782a29bbbe6a3e185d202aece"), looks := true }, kinds := [], alts := [], laidByText := true, laidKinds := [.data], laidTests := true, laidLooks := .later }
def FnExactMatchRegexCardSaid : Prop := Claim7.holds Tryd.pinned (.plain (OpenSpec.ofChange fnExactMatchRegexSpec)) fnExactMatchRegexCard

/-- THE SECOND FORM's CARD OF 'laws.FnExactMatchRegex'. -/
def fnExactMatchRegexUptoCard : Claim7 := { stood := { row := fnExactMatchRegexUptoRow, standIns := [], harness := (true, "738cfaa58cf24821b627b819a361614ffed2b24782a29bbbe6a3e185d202aece"), looks := true }, kinds := [], alts := [], laidByText := true, laidKinds := [.data], laidTests := true, laidLooks := .later }
def FnExactMatchRegexUptoCardSaid : Prop := Claim7.holds Tryd.pinned (.plain (OpenSpec.upto fnExactMatchRegexSpec)) fnExactMatchRegexUptoCard
end Rows
end Go.Proofs.YtbjbdidcnkamaaaDoor
