/-
  DERIVED. GIVEN WITH THE SEED: THE CARDS: each row of YtlgeffinhbodeaeGreatDoorRows.lean that lists a variable, with what it lists TIED to the program's text (the seventh form; the later family's looks); each row that meets fmt, with fmt's text TOLD by the authors' own Lean function (tested against real Go, not proved from fmt's source: count such statements apart). THE CARD IS WHAT COUNTS. Prove the row's statement (the work); the ties are given (YtlgeffinhbodeaeGreatDoorTie.lean); close each card by the builder's one call (the guide's Derived/Test/ToyasCard.lean, 'card_holds'). Laid BY PROGRAM, IN A SANDBOX (cutbox-door.mjs). By AI agents, Wed Nov 11 2026. No macro, syntax, notation, axiom, sorry.
-/
import Derived.Test.YtlgeffinhbodeaeGreatDoorRows
import GoSem.ClaimSeven
namespace Go.Proofs.YtlgeffinhbodeaeGreatDoor
namespace Rows

/-- THE TIED CARD OF 'laws.FnPrintParse'. -/
def fnPrintParseCard : Claim7 := { stood := { row := fnPrintParseRow, standIns := [], harness := (true, "b2e5487418116a2750cd1ccc2c373e430c4dc384c0bc79f7c243a0bbb8497460"), looks := true }, kinds := [], alts := [], laidByText := true, laidKinds := [.data, .data, .data, .sentinel, .sentinel, .data], laidTests := true, laidLooks := .later }
def FnPrintParseCardSaid : Prop := Claim7.holds Tryz.pinned (.plain (OpenSpec.ofChange fnPrintParseSpec)) fnPrintParseCard

/-- THE TIED CARD OF 'laws.FnSeek'. -/
def fnSeekCard : Claim7 := { stood := { row := fnSeekRow, standIns := [], harness := (true, "b2e5487418116a2750cd1ccc2c373e430c4dc384c0bc79f7c243a0bbb8497460"), looks := true }, kinds := [], alts := [], laidByText := true, laidKinds := [.handle], laidTests := true, laidLooks := .later }
def FnSeekCardSaid : Prop := Claim7.holds Tryz.pinned (.plain (OpenSpec.ofChange fnSeekSpec)) fnSeekCard

/-- THE SECOND FORM's CARD OF 'laws.FnPrintParse'. -/
def fnPrintParseUptoCard : Claim7 := { stood := { row := fnPrintParseUptoRow, standIns := [], harness := (true, "b2e5487418116a2750cd1ccc2c373e430c4dc384c0bc79f7c243a0bbb8497460"), looks := true }, kinds := [], alts := [], laidByText := true, laidKinds := [.data, .data, .data, .sentinel, .sentinel, .data], laidTests := true, laidLooks := .later }
def FnPrintParseUptoCardSaid : Prop := Claim7.holds Tryz.pinned (.plain (OpenSpec.upto fnPrintParseSpec)) fnPrintParseUptoCard

/-- THE SECOND FORM's CARD OF 'laws.FnSeek'. -/
def fnSeekUptoCard : Claim7 := { stood := { row := fnSeekUptoRow, standIns := [], harness := (true, "b2e5487418116a2750cd1ccc2c373e430c4dc384c0bc79f7c243a0bbb8497460"), looks := true }, kinds := [], alts := [], laidByText := true, laidKinds := [.handle], laidTests := true, laidLooks := .later }
def FnSeekUptoCardSaid : Prop := Claim7.holds Tryz.pinned (.plain (OpenSpec.upto fnSeekSpec)) fnSeekUptoCard
end Rows
end Go.Proofs.YtlgeffinhbodeaeGreatDoor
