/-
  DERIVED. GIVEN WITH THE SEED: THE CARDS: each row of YtgnpcenpcmdlfaaGreatDoorRows.lean that lists a variable, with what it lists TIED to the program's text (the seventh form; the later family's looks); each row that meets fmt, with fmt's text TOLD by the authors' own Lean function (tested against real Go, not proved from fmt's source: count such statements apart). THE CARD IS WHAT COUNTS. Prove the row's statement (the work); the ties are given (YtgnpcenpcmdlfaaGreatDoorTie.lean); close each card by the builder's one call (the guide's Derived/Test/ToyasCard.lean, 'card_holds'). Laid BY PROGRAM, IN A SANDBOX (cutbox-door.mjs). By AI agents, Wed Nov 11 2026. No macro, syntax, notation, axiom, sorry.
-/
import Derived.Test.YtgnpcenpcmdlfaaGreatDoorRows
import GoSem.ClaimSeven
namespace Go.Proofs.YtgnpcenpcmdlfaaGreatDoor
namespace Rows

/-- THE TIED CARD OF 'laws.FnExactParseFilter'. -/
def fnExactParseFilterCard : Claim7 := { stood := { row := fnExactParseFilterRow, standIns := [], harness := (true, "134800ffdbe28de5df33eb93fb58b40fe407b95fe56dc6d8ce8524f17abcf6ca"), looks := true }, kinds := [], alts := [], laidByText := true, laidKinds := [.data, .data, .data, .sentinel, .sentinel, .data], laidTests := true, laidLooks := .later }
def FnExactParseFilterCardSaid : Prop := Claim7.holds Tryz.pinned (.plain (OpenSpec.ofChange fnExactParseFilterSpec)) fnExactParseFilterCard

/-- THE TIED CARD OF 'laws.FnPrintParse'. -/
def fnPrintParseCard : Claim7 := { stood := { row := fnPrintParseRow, standIns := [], harness := (true, "134800ffdbe28de5df33eb93fb58b40fe407b95fe56dc6d8ce8524f17abcf6ca"), looks := true }, kinds := [], alts := [], laidByText := true, laidKinds := [.data, .data, .data, .sentinel, .sentinel, .data], laidTests := true, laidLooks := .later }
def FnPrintParseCardSaid : Prop := Claim7.holds Tryz.pinned (.plain (OpenSpec.ofChange fnPrintParseSpec)) fnPrintParseCard

/-- THE TIED CARD OF 'laws.FnReparse'. -/
def fnReparseCard : Claim7 := { stood := { row := fnReparseRow, standIns := [], harness := (true, "134800ffdbe28de5df33eb93fb58b40fe407b95fe56dc6d8ce8524f17abcf6ca"), looks := true }, kinds := [], alts := [], laidByText := true, laidKinds := [.data, .data, .data, .sentinel, .sentinel, .data], laidTests := true, laidLooks := .later }
def FnReparseCardSaid : Prop := Claim7.holds Tryz.pinned (.plain (OpenSpec.ofChange fnReparseSpec)) fnReparseCard

/-- THE SECOND FORM's CARD OF 'laws.FnExactParseFilter'. -/
def fnExactParseFilterUptoCard : Claim7 := { stood := { row := fnExactParseFilterUptoRow, standIns := [], harness := (true, "134800ffdbe28de5df33eb93fb58b40fe407b95fe56dc6d8ce8524f17abcf6ca"), looks := true }, kinds := [], alts := [], laidByText := true, laidKinds := [.data, .data, .data, .sentinel, .sentinel, .data], laidTests := true, laidLooks := .later }
def FnExactParseFilterUptoCardSaid : Prop := Claim7.holds Tryz.pinned (.plain (OpenSpec.upto fnExactParseFilterSpec)) fnExactParseFilterUptoCard

/-- THE SECOND FORM's CARD OF 'laws.FnPrintParse'. -/
def fnPrintParseUptoCard : Claim7 := { stood := { row := fnPrintParseUptoRow, standIns := [], harness := (true, "134800ffdbe28de5df33eb93fb58b40fe407b95fe56dc6d8ce8524f17abcf6ca"), looks := true }, kinds := [], alts := [], laidByText := true, laidKinds := [.data, .data, .data, .sentinel, .sentinel, .data], laidTests := true, laidLooks := .later }
def FnPrintParseUptoCardSaid : Prop := Claim7.holds Tryz.pinned (.plain (OpenSpec.upto fnPrintParseSpec)) fnPrintParseUptoCard

/-- THE SECOND FORM's CARD OF 'laws.FnReparse'. -/
def fnReparseUptoCard : Claim7 := { stood := { row := fnReparseUptoRow, standIns := [], harness := (true, "134800ffdbe28de5df33eb93fb58b40fe407b95fe56dc6d8ce8524f17abcf6ca"), looks := true }, kinds := [], alts := [], laidByText := true, laidKinds := [.data, .data, .data, .sentinel, .sentinel, .data], laidTests := true, laidLooks := .later }
def FnReparseUptoCardSaid : Prop := Claim7.holds Tryz.pinned (.plain (OpenSpec.upto fnReparseSpec)) fnReparseUptoCard
end Rows
end Go.Proofs.YtgnpcenpcmdlfaaGreatDoor
