/-
  DERIVED. GIVEN WITH THE SEED: THE CARDS: each row of YtodaanmbbgdclabDoorRows.lean that lists a variable, with what it lists TIED to the program's text (the seventh form; the later family's looks); each row that meets fmt, with fmt's text TOLD by the authors' own Lean function (tested against real Go, not proved from fmt's source: count such statements apart). THE CARD IS WHAT COUNTS. Prove the row's statement (the work); the ties are given (YtodaanmbbgdclabDoorTie.lean); close each card by the builder's one call (the guide's Derived/Test/ToyasCard.lean, 'card_holds'). Laid BY PROGRAM, IN A SANDBOX (cutbox-door.mjs). By AI agents, Wed Nov 11 2026. No macro, syntax, notation, axiom, sorry.
-/
import Derived.Test.YtodaanmbbgdclabDoorRows
import GoSem.ClaimSeven
namespace Go.Proofs.YtodaanmbbgdclabDoor
namespace Rows

/-- THE TIED CARD OF 'laws.FnExactSeekRun'. -/
def fnExactSeekRunCard : Claim7 := { stood := { row := fnExactSeekRunRow, standIns := [], harness := (true, "02203ba5cd16b6f8ed437b1dcd40eea50d6fd38e4409dfcf6f3cc4b096dcaee2"), looks := true }, kinds := [], alts := [], laidByText := true, laidKinds := [.handle], laidTests := true, laidLooks := .later }
def FnExactSeekRunCardSaid : Prop := Claim7.holds Tryd.pinned (.plain (OpenSpec.ofChange fnExactSeekRunSpec)) fnExactSeekRunCard

/-- THE TIED CARD OF 'laws.FnExactMatchRegex'. -/
def fnExactMatchRegexCard : Claim7 := { stood := { row := fnExactMatchRegexRow, standIns := [], harness := (true, "02203ba5cd16b6f8ed437b1dcd40eea50d6fd38e4409dfcf6f3cc4b096dcaee2"), looks := true }, kinds := [], alts := [], laidByText := true, laidKinds := [.data], laidTests := true, laidLooks := .later }
def FnExactMatchRegexCardSaid : Prop := Claim7.holds Tryd.pinned (.plain (OpenSpec.ofChange fnExactMatchRegexSpec)) fnExactMatchRegexCard

/-- THE SECOND FORM's CARD OF 'laws.FnExactSeekRun'. -/
def fnExactSeekRunUptoCard : Claim7 := { stood := { row := fnExactSeekRunUptoRow, standIns := [], harness := (true, "02203ba5cd16b6f8ed437b1dcd40eea50d6fd38e4409dfcf6f3cc4b096dcaee2"), looks := true }, kinds := [], alts := [], laidByText := true, laidKinds := [.handle], laidTests := true, laidLooks := .later }
def FnExactSeekRunUptoCardSaid : Prop := Claim7.holds Tryd.pinned (.plain (OpenSpec.upto fnExactSeekRunSpec)) fnExactSeekRunUptoCard

/-- THE SECOND FORM's CARD OF 'laws.FnExactMatchRegex'. -/
def fnExactMatchRegexUptoCard : Claim7 := { stood := { row := fnExactMatchRegexUptoRow, standIns := [], harness := (true, "02203ba5cd16b6f8ed437b1dcd40eea50d6fd38e4409dfcf6f3cc4b096dcaee2"), looks := true }, kinds := [], alts := [], laidByText := true, laidKinds := [.data], laidTests := true, laidLooks := .later }
def FnExactMatchRegexUptoCardSaid : Prop := Claim7.holds Tryd.pinned (.plain (OpenSpec.upto fnExactMatchRegexSpec)) fnExactMatchRegexUptoCard
end Rows
end Go.Proofs.YtodaanmbbgdclabDoor
