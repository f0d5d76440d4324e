/-
  DERIVED. GIVEN WITH THE SEED: THE CARDS: each row of YtkidabedcgngcaaGreatDoorRows.lean that lists a variable, with what it lists TIED to the program's text (the seventh form; the later family's looks); each row that meets fmt, with fmt's text TOLD by the authors' own Lean function (tested against real Go, not proved from fmt's source: count such statements apart). THE CARD IS WHAT COUNTS. Prove the row's statement (the work); the ties are given (YtkidabedcgngcaaGreatDoorTie.lean); close each card by the builder's one call (the guide's Derived/Test/ToyasCard.lean, 'card_holds'). Laid BY PROGRAM, IN A SANDBOX (cutbox-door.mjs). By AI agents, Wed Nov 11 2026. No macro, syntax, notation, axiom, sorry.
-/
import Derived.Test.YtkidabedcgngcaaGreatDoorRows
import GoSem.ClaimSeven
namespace Go.Proofs.YtkidabedcgngcaaGreatDoor
namespace Rows

/-- THE TIED CARD OF 'laws.FnExactMeaning'. -/
def fnExactMeaningCard : Claim7 := { stood := { row := fnExactMeaningRow, standIns := [], harness := (true, "c753d510c798c11bb0c7d809242a3ee49c94050cfb3321bb37c40c8b33ce77d4"), looks := true }, kinds := [], alts := [], laidByText := true, laidKinds := [.data], laidTests := true, laidLooks := .later }
def FnExactMeaningCardSaid : Prop := Claim7.holds Tryz.pinned (.plain (OpenSpec.ofChange fnExactMeaningSpec)) fnExactMeaningCard

/-- THE TIED CARD OF 'laws.FnNormal'. -/
def fnNormalCard : Claim7 := { stood := { row := fnNormalRow, standIns := [], harness := (true, "c753d510c798c11bb0c7d809242a3ee49c94050cfb3321bb37c40c8b33ce77d4"), looks := true }, kinds := [], alts := [], laidByText := true, laidKinds := [.data], laidTests := true, laidLooks := .later }
def FnNormalCardSaid : Prop := Claim7.holds Tryz.pinned (.plain (OpenSpec.ofChange fnNormalSpec)) fnNormalCard

/-- THE SECOND FORM's CARD OF 'laws.FnExactMeaning'. -/
def fnExactMeaningUptoCard : Claim7 := { stood := { row := fnExactMeaningUptoRow, standIns := [], harness := (true, "c753d510c798c11bb0c7d809242a3ee49c94050cfb3321bb37c40c8b33ce77d4"), looks := true }, kinds := [], alts := [], laidByText := true, laidKinds := [.data], laidTests := true, laidLooks := .later }
def FnExactMeaningUptoCardSaid : Prop := Claim7.holds Tryz.pinned (.plain (OpenSpec.upto fnExactMeaningSpec)) fnExactMeaningUptoCard

/-- THE SECOND FORM's CARD OF 'laws.FnNormal'. -/
def fnNormalUptoCard : Claim7 := { stood := { row := fnNormalUptoRow, standIns := [], harness := (true, "c753d510c798c11bb0c7d809242a3ee49c94050cfb3321bb37c40c8b33ce77d4"), looks := true }, kinds := [], alts := [], laidByText := true, laidKinds := [.data], laidTests := true, laidLooks := .later }
def FnNormalUptoCardSaid : Prop := Claim7.holds Tryz.pinned (.plain (OpenSpec.upto fnNormalSpec)) fnNormalUptoCard
end Rows
end Go.Proofs.YtkidabedcgngcaaGreatDoor
