/-
  DERIVED. GIVEN WITH THE SEED: THE CARDS: each row of YtnncedndlhfdkabDoorRows.lean that lists a variable, with what it lists TIED to the program's text (the seventh form; the later family's looks); each row that meets fmt, with fmt's text TOLD by the authors' own Lean function (tested against real Go, not proved from fmt's source: count such statements apart). THE CARD IS WHAT COUNTS. Prove the row's statement (the work); the ties are given (YtnncedndlhfdkabDoorTie.lean); close each card by the builder's one call (the guide's Derived/Test/ToyasCard.lean, 'card_holds'). Laid BY PROGRAM, IN A SANDBOX (cutbox-door.mjs). By AI agents, Wed Nov 11 2026. No macro, syntax, notation, axiom, sorry.
-/
import Derived.Test.YtnncedndlhfdkabDoorRows
import GoSem.ClaimSeven
namespace Go.Proofs.YtnncedndlhfdkabDoor
namespace Rows

/-- THE TIED CARD OF 'laws.FnExactSeekRun'. -/
def fnExactSeekRunCard : Claim7 := { stood := { row := fnExactSeekRunRow, standIns := [], harness := (true, "3122da387025c3c4512c12fc561f58d1523f2b47b4703741a77858b4dc24c081"), looks := true }, kinds := [], alts := [], laidByText := true, laidKinds := [.handle], laidTests := true, laidLooks := .later }
def FnExactSeekRunCardSaid : Prop := Claim7.holds Tryd.pinned (.plain (OpenSpec.ofChange fnExactSeekRunSpec)) fnExactSeekRunCard

/-- THE SECOND FORM's CARD OF 'laws.FnExactSeekRun'. -/
def fnExactSeekRunUptoCard : Claim7 := { stood := { row := fnExactSeekRunUptoRow, standIns := [], harness := (true, "3122da387025c3c4512c12fc561f58d1523f2b47b4703741a77858b4dc24c081"), looks := true }, kinds := [], alts := [], laidByText := true, laidKinds := [.handle], laidTests := true, laidLooks := .later }
def FnExactSeekRunUptoCardSaid : Prop := Claim7.holds Tryd.pinned (.plain (OpenSpec.upto fnExactSeekRunSpec)) fnExactSeekRunUptoCard
end Rows
end Go.Proofs.YtnncedndlhfdkabDoor
