/-
  DERIVED. GIVEN WITH THE SEED: THE CARDS: each row of YtnncedndlhfdkacDoorRows.lean that lists a variable, with what it lists TIED to the program's text (the seventh form; the later family's looks); each row that meets fmt, with fmt's text TOLD by the authors' own Lean function (tested against real Go, not proved from fmt's source: count such statements apart). THE CARD IS WHAT COUNTS. Prove the row's statement (the work); the ties are given (YtnncedndlhfdkacDoorTie.lean); close each card by the builder's one call (the guide's Derived/Test/ToyasCard.lean, 'card_holds'). Laid BY PROGRAM, IN A SANDBOX (cutbox-door.mjs). By AI agents, Wed Nov 11 2026. No macro, syntax, notation, axiom, sorry.
-/
import Derived.Test.YtnncedndlhfdkacDoorRows
import GoSem.ClaimSeven
namespace Go.Proofs.YtnncedndlhfdkacDoor
namespace Rows

/-- THE TIED CARD OF 'laws.FnExactDecodeRun'. -/
def fnExactDecodeRunCard : Claim7 := { stood := { row := fnExactDecodeRunRow, standIns := [], harness := (true, "69c1d13efab2f543940e8ad505faf80751766e316d5f54cd816be053a478a3d4"), looks := true }, kinds := [], alts := [], laidByText := true, laidKinds := [.handle], laidTests := true, laidLooks := .later }
def FnExactDecodeRunCardSaid : Prop := Claim7.holds Tryd.pinned (.plain (OpenSpec.ofChange fnExactDecodeRunSpec)) fnExactDecodeRunCard

/-- THE SECOND FORM's CARD OF 'laws.FnExactDecodeRun'. -/
def fnExactDecodeRunUptoCard : Claim7 := { stood := { row := fnExactDecodeRunUptoRow, standIns := [], harness := (true, "69c1d13efab2f543940e8ad505faf80751766e316d5f54cd816be053a478a3d4"), looks := true }, kinds := [], alts := [], laidByText := true, laidKinds := [.handle], laidTests := true, laidLooks := .later }
def FnExactDecodeRunUptoCardSaid : Prop := Claim7.holds Tryd.pinned (.plain (OpenSpec.upto fnExactDecodeRunSpec)) fnExactDecodeRunUptoCard
end Rows
end Go.Proofs.YtnncedndlhfdkacDoor
