/-
  DERIVED. GIVEN WITH THE SEED: THE CARDS: each row of YtmbjghhicbbgmaaDoorRows.lean that lists a variable, with what it lists TIED to the program's text (the seventh form; the later family's looks); each row that meets fmt, with fmt's text TOLD by the authors' own Lean function (tested against real Go, not proved from fmt's source: count such statements apart). THE CARD IS WHAT COUNTS. Prove the row's statement (the work); the ties are given (YtmbjghhicbbgmaaDoorTie.lean); close each card by the builder's one call (the guide's Derived/Test/ToyasCard.lean, 'card_holds'). Laid BY PROGRAM, IN A SANDBOX (cutbox-door.mjs). By AI agents, Wed Nov 11 2026. No macro, syntax, notation, axiom, sorry.
-/
import Derived.Test.YtmbjghhicbbgmaaDoorRows
import GoSem.ClaimSeven
namespace Go.Proofs.YtmbjghhicbbgmaaDoor
namespace Rows

/-- THE TIED CARD OF 'inklinglaw09.PrintRule'. -/
def printRuleCard : Claim7 := { stood := { row := printRuleRow, standIns := [], harness := (true, "34def1eee85ed3dfc218e3a9390072fe104d45ae4f9478e9f793143b0dc8a7ea"), looks := false }, kinds := [], alts := [], laidByText := true, laidKinds := [.data], laidTests := true, laidLooks := .later }
def PrintRuleCardSaid : Prop := Claim7.holds Tryd.pinned (.plain (OpenSpec.ofChange printRuleSpec)) printRuleCard

/-- THE SECOND FORM's CARD OF 'inklinglaw09.PrintRule'. -/
def printRuleUptoCard : Claim7 := { stood := { row := printRuleUptoRow, standIns := [], harness := (true, "34def1eee85ed3dfc218e3a9390072fe104d45ae4f9478e9f793143b0dc8a7ea"), looks := false }, kinds := [], alts := [], laidByText := true, laidKinds := [.data], laidTests := true, laidLooks := .later }
def PrintRuleUptoCardSaid : Prop := Claim7.holds Tryd.pinned (.plain (OpenSpec.upto printRuleSpec)) printRuleUptoCard
end Rows
end Go.Proofs.YtmbjghhicbbgmaaDoor
