/-
  DERIVED. GIVEN WITH THE SEED: THE CARDS: each row of YtlgeffinhbodeacDoorRows.lean that lists a variable, with what it lists TIED to the program's text (the seventh form; the later family's looks); each row that meets fmt, with fmt's text TOLD by the authors' own Lean function (tested against real Go, not proved from fmt's source: count such statements apart). THE CARD IS WHAT COUNTS. Prove the row's statement (the work); the ties are given (YtlgeffinhbodeacDoorTie.lean); close each card by the builder's one call (the guide's Derived/Test/ToyasCard.lean, 'card_holds'). Laid BY PROGRAM, IN A SANDBOX (cutbox-door.mjs). By AI agents, Wed Nov 11 2026. No macro, syntax, notation, axiom, sorry.
-/
import Derived.Test.YtlgeffinhbodeacDoorRows
import GoSem.ClaimSeven
namespace Go.Proofs.YtlgeffinhbodeacDoor
namespace Rows

/-- THE TIED CARD OF 'laws.FnExactDecodeRun'. -/
def fnExactDecodeRunCard : Claim7 := { stood := { row := fnExactDecodeRunRow, standIns := [], harness := (true, "c2ff7018ccc176cdefedf4ca0cc26ddc831c79a0ad1ece87d00060fd10c50867"), looks := true }, kinds := [], alts := [], laidByText := true, laidKinds := [.handle], laidTests := true, laidLooks := .later }
def FnExactDecodeRunCardSaid : Prop := Claim7.holds Tryd.pinned (.plain (OpenSpec.ofChange fnExactDecodeRunSpec)) fnExactDecodeRunCard

/-- THE TIED CARD OF 'laws.FnFile'. -/
def fnFileCard : Claim7 := { stood := { row := fnFileRow, standIns := [], harness := (true, "c2ff7018ccc176cdefedf4ca0cc26ddc831c79a0ad1ece87d00060fd10c50867"), looks := true }, kinds := [], alts := [], laidByText := true, laidKinds := [.handle], laidTests := true, laidLooks := .later }
def FnFileCardSaid : Prop := Claim7.holds Tryd.pinned (.plain (OpenSpec.ofChange fnFileSpec)) fnFileCard

/-- THE SECOND FORM's CARD OF 'laws.FnExactDecodeRun'. -/
def fnExactDecodeRunUptoCard : Claim7 := { stood := { row := fnExactDecodeRunUptoRow, standIns := [], harness := (true, "c2ff7018ccc176cdefedf4ca0cc26ddc831c79a0ad1ece87d00060fd10c50867"), looks := true }, kinds := [], alts := [], laidByText := true, laidKinds := [.handle], laidTests := true, laidLooks := .later }
def FnExactDecodeRunUptoCardSaid : Prop := Claim7.holds Tryd.pinned (.plain (OpenSpec.upto fnExactDecodeRunSpec)) fnExactDecodeRunUptoCard

/-- THE SECOND FORM's CARD OF 'laws.FnFile'. -/
def fnFileUptoCard : Claim7 := { stood := { row := fnFileUptoRow, standIns := [], harness := (true, "c2ff7018ccc176cdefedf4ca0cc26ddc831c79a0ad1ece87d00060fd10c50867"), looks := true }, kinds := [], alts := [], laidByText := true, laidKinds := [.handle], laidTests := true, laidLooks := .later }
def FnFileUptoCardSaid : Prop := Claim7.holds Tryd.pinned (.plain (OpenSpec.upto fnFileSpec)) fnFileUptoCard
end Rows
end Go.Proofs.YtlgeffinhbodeacDoor
