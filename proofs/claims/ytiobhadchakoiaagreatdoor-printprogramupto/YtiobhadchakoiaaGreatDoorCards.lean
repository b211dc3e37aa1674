/-
  DERIVED. GIVEN WITH THE SEED: THE CARDS: each row of YtiobhadchakoiaaGreatDoorRows.lean that lists a variable, with what it lists TIED to the program's text (the seventh form; the later family's looks); each row that meets fmt, with fmt's text TOLD by the authors' own Lean function (tested against real Go, not proved from fmt's source: count such statements apart). THE CARD IS WHAT COUNTS. Prove the row's statement (the work); the ties are given (YtiobhadchakoiaaGreatDoorTie.lean); close each card by the builder's one call (the guide's Derived/Test/ToyasCard.lean, 'card_holds'). Laid BY PROGRAM, IN A SANDBOX (cutbox-door.mjs). By AI agents, Wed Nov 11 2026. No macro, syntax, notation, axiom, sorry.
-/
import Derived.Test.YtiobhadchakoiaaGreatDoorRows
import GoSem.ClaimSeven
namespace Go.Proofs.YtiobhadchakoiaaGreatDoor
namespace Rows

/-- THE TIED CARD OF 'inklinglaw09.PrintProgram'. -/
def printProgramCard : Claim7 := { stood := { row := printProgramRow, standIns := [], harness := (true, "873138e78dcdd62835864d922a2f1d7e094f15a979aecf8ed07e08eac1d1dc3e"), looks := false }, kinds := [], alts := [], laidByText := true, laidKinds := [.data, .data, .data, .data], laidTests := true, laidLooks := .later }
def PrintProgramCardSaid : Prop := Claim7.holds Tryz.pinned (.plain (OpenSpec.ofChange printProgramSpec)) printProgramCard

/-- THE SECOND FORM's CARD OF 'inklinglaw09.PrintProgram'. -/
def printProgramUptoCard : Claim7 := { stood := { row := printProgramUptoRow, standIns := [], harness := (true, "873138e78dcdd62835864d922a2f1d7e094f15a979aecf8ed07e08eac1d1dc3e"), looks := false }, kinds := [], alts := [], laidByText := true, laidKinds := [.data, .data, .data, .data], laidTests := true, laidLooks := .later }
def PrintProgramUptoCardSaid : Prop := Claim7.holds Tryz.pinned (.plain (OpenSpec.upto printProgramSpec)) printProgramUptoCard
end Rows
end Go.Proofs.YtiobhadchakoiaaGreatDoor
