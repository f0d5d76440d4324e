/-
  DERIVED. GIVEN WITH THE SEED: THE CARDS: each row of YtnnagkfoiganfaaGreatDoorRows.lean that lists a variable, with what it lists TIED to the program's text (the seventh form; the later family's looks); each row that meets fmt, with fmt's text TOLD by the authors' own Lean function (tested against real Go, not proved from fmt's source: count such statements apart). THE CARD IS WHAT COUNTS. Prove the row's statement (the work); the ties are given (YtnnagkfoiganfaaGreatDoorTie.lean); close each card by the builder's one call (the guide's Derived/Test/ToyasCard.lean, 'card_holds'). Laid BY PROGRAM, IN A SANDBOX (cutbox-door.mjs). By AI agents, Wed Nov 11 2026. No macro, syntax, notation, axiom, sorry.
-/
import Derived.Test.YtnnagkfoiganfaaGreatDoorRows
import GoSem.ClaimSeven
namespace Go.Proofs.YtnnagkfoiganfaaGreatDoor
namespace Rows

/-- THE TIED CARD OF 'laws.FnMachine'. -/
def fnMachineCard : Claim7 := { stood := { row := fnMachineRow, standIns := [], harness := (true, "d424634ee4ec4cad80d4584397a1160d653299e482795da14fcee1e74c49e2ec"), looks := true }, kinds := [], alts := [], laidByText := true, laidKinds := [.data], laidTests := true, laidLooks := .later }
def FnMachineCardSaid : Prop := Claim7.holds Tryz.pinned (.plain (OpenSpec.ofChange fnMachineSpec)) fnMachineCard

/-- THE TIED CARD OF 'laws.FnExactRunCode'. -/
def fnExactRunCodeCard : Claim7 := { stood := { row := fnExactRunCodeRow, standIns := [], harness := (true, "d424634ee4ec4cad80d4584397a1160d653299e482795da14fcee1e74c49e2ec"), looks := true }, kinds := [], alts := [], laidByText := true, laidKinds := [.data], laidTests := true, laidLooks := .later }
def FnExactRunCodeCardSaid : Prop := Claim7.holds Tryz.pinned (.plain (OpenSpec.ofChange fnExactRunCodeSpec)) fnExactRunCodeCard

/-- THE TIED CARD OF 'laws.FnHints'. -/
def fnHintsCard : Claim7 := { stood := { row := fnHintsRow, standIns := [], harness := (true, "d424634ee4ec4cad80d4584397a1160d653299e482795da14fcee1e74c49e2ec"), looks := true }, kinds := [], alts := [], laidByText := true, laidKinds := [.data], laidTests := true, laidLooks := .later }
def FnHintsCardSaid : Prop := Claim7.holds Tryz.pinned (.plain (OpenSpec.ofChange fnHintsSpec)) fnHintsCard

/-- THE SECOND FORM's CARD OF 'laws.FnMachine'. -/
def fnMachineUptoCard : Claim7 := { stood := { row := fnMachineUptoRow, standIns := [], harness := (true, "d424634ee4ec4cad80d4584397a1160d653299e482795da14fcee1e74c49e2ec"), looks := true }, kinds := [], alts := [], laidByText := true, laidKinds := [.data], laidTests := true, laidLooks := .later }
def FnMachineUptoCardSaid : Prop := Claim7.holds Tryz.pinned (.plain (OpenSpec.upto fnMachineSpec)) fnMachineUptoCard

/-- THE SECOND FORM's CARD OF 'laws.FnExactRunCode'. -/
def fnExactRunCodeUptoCard : Claim7 := { stood := { row := fnExactRunCodeUptoRow, standIns := [], harness := (true, "d424634ee4ec4cad80d4584397a1160d653299e482795da14fcee1e74c49e2ec"), looks := true }, kinds := [], alts := [], laidByText := true, laidKinds := [.data], laidTests := true, laidLooks := .later }
def FnExactRunCodeUptoCardSaid : Prop := Claim7.holds Tryz.pinned (.plain (OpenSpec.upto fnExactRunCodeSpec)) fnExactRunCodeUptoCard

/-- THE SECOND FORM's CARD OF 'laws.FnHints'. -/
def fnHintsUptoCard : Claim7 := { stood := { row := fnHintsUptoRow, standIns := [], harness := (true, "d424634ee4ec4cad80d4584397a1160d653299e482795da14fcee1e74c49e2ec"), looks := true }, kinds := [], alts := [], laidByText := true, laidKinds := [.data], laidTests := true, laidLooks := .later }
def FnHintsUptoCardSaid : Prop := Claim7.holds Tryz.pinned (.plain (OpenSpec.upto fnHintsSpec)) fnHintsUptoCard
end Rows
end Go.Proofs.YtnnagkfoiganfaaGreatDoor
