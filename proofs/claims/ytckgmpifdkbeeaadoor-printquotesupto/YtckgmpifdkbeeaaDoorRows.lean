/-
  NARROWER THAN 'FOR EVERY INPUT', by the rows' own cells (each row's printed sentence says how): PrintTexts: laid · PrintQuotes: laid.
  DERIVED. THE GIVEN ROWS OF THIS SEAT. 2 by the template 'for every input the law returns true; each argument reads behind the call as it read before'; 0 by the template 'total and deterministic' (their statements: YtckgmpifdkbeeaaDoorTotals.lean).
  GIVEN WITH THE SEED: the statements are not yours to turn. If you find one false, say at which input.
  Laid BY PROGRAM, IN A SANDBOX (cutbox-rows.mjs): the forced cells as the released guide's own fill.sh prints them over the translation 375f13096f612bc9… (all of the seat's roots in one cut). By AI agents, Wed Nov 11 2026. No macro, syntax, notation, axiom, sorry.
-/
import Derived.Test.YtckgmpifdkbeeaaDoorChecked
import GoSem.Claim
import GoSem.ClaimJoined
import GoSem.ClaimMapViews
import Derived.JoinedTies
import Derived.KernelRfl
namespace Go.Proofs.YtckgmpifdkbeeaaDoor
/- THE CELL 'sum', in the pinned program and in every row, IS THE sha256 OF THE DUMP (.gsa) THAT YtckgmpifdkbeeaaDoorProg.lean LOADS. Nothing in Lean hashes anything: it is a label: what it is worth is what the hold of that sum in a sandbox is worth. -/
noncomputable def Tryd.pinned : Pinned := { name := "ytckgmpifdkbeeaadoor", sum := "375f13096f612bc97a60a66492a3f52f307af9446d2e0e5867ac378c0e440c6b", checked := Tryd.checked }
namespace Rows
def none {H : Type} : Left H := { results := [], args := [] }

/- WHAT THE LISTED PACKAGE-LEVEL VARIABLES READ AS WHEN THE CALL BEGINS. Each datum BY PROGRAM (the guide's laid-datum.mjs) off the statement by which the dump's own 'gosem.cut.vars' lays the variable. In a bare row this is a premise. The card (YtckgmpifdkbeeaaDoorCards.lean) ties it to the program's text. -/
def laid_inkling_lex_reserved {H : Type} : DataW H := .agg [.lit (.string [105, 110, 112, 117, 116]), .lit (.string [111, 117, 116, 112, 117, 116]), .lit (.string [110, 111, 116])]

/-- 'inklinglaw09.PrintTexts': WHATEVER THE INPUT: true; the input reads as it did. -/
def printTextsSpec : ChangeSpec := { name := "printTexts", fn := fun _ => fun
  | [d] => { results := [.lit (.bool true)], args := [d] }
  | _ => none }
def printTextsRow : OpenClaim := { program := "ytckgmpifdkbeeaadoor", sum := "375f13096f612bc97a60a66492a3f52f307af9446d2e0e5867ac378c0e440c6b", func := "inkling/inklinglaw09.PrintTexts", spec := "printTexts", inPlace := ["internal/abi.NoEscape"], unfollowed := true, recurses := true, named := ["inkling/lex.reserved"], apart := false, laid := [("inkling/lex.reserved", laid_inkling_lex_reserved)] }
def PrintTextsSaid : Prop := printTextsRow.holds Tryd.pinned (OpenSpec.ofChange printTextsSpec)

/-- ITS FALSE NEIGHBOUR: 'it returns false'. Refute it at one input. -/
def printTextsWrong : ChangeSpec := { name := "printTexts", fn := fun _ => fun
  | [d] => { results := [.lit (.bool false)], args := [d] }
  | _ => none }
def PrintTextsWrongFalsely : Prop := printTextsRow.holds Tryd.pinned (OpenSpec.ofChange printTextsWrong)

/-- 'inklinglaw09.PrintQuotes': WHATEVER THE INPUT: true; the input reads as it did. -/
def printQuotesSpec : ChangeSpec := { name := "printQuotes", fn := fun _ => fun
  | [d] => { results := [.lit (.bool true)], args := [d] }
  | _ => none }
def printQuotesRow : OpenClaim := { program := "ytckgmpifdkbeeaadoor", sum := "375f13096f612bc97a60a66492a3f52f307af9446d2e0e5867ac378c0e440c6b", func := "inkling/inklinglaw09.PrintQuotes", spec := "printQuotes", inPlace := ["internal/abi.NoEscape"], unfollowed := true, recurses := true, named := ["inkling/lex.reserved"], apart := false, laid := [("inkling/lex.reserved", laid_inkling_lex_reserved)] }
def PrintQuotesSaid : Prop := printQuotesRow.holds Tryd.pinned (OpenSpec.ofChange printQuotesSpec)

/-- ITS FALSE NEIGHBOUR: 'it returns false'. Refute it at one input. -/
def printQuotesWrong : ChangeSpec := { name := "printQuotes", fn := fun _ => fun
  | [d] => { results := [.lit (.bool false)], args := [d] }
  | _ => none }
def PrintQuotesWrongFalsely : Prop := printQuotesRow.holds Tryd.pinned (OpenSpec.ofChange printQuotesWrong)

/- THE SECOND FORM. 'bulk': how many values and letters a reading holds, each counted each time it is reached (what is shared counts as often as it is met; a slice's spare places count too). A statement '..UptoSaid' is the law's where the arguments, and the package variables that the reading takes, are together of bulk at most 1048576: NARROWER than '..Said'. Prove '..Said' where nothing that the law and all that it calls make is longer than what came in: it says more and counts as full. Else prove '..UptoSaid'. A law counts once. -/
mutual
def uptoBulk {H : Type} : DataW H → Nat
  | .lit (.string bytes) => bytes.length + 1
  | .lit _ => 1
  | .nil => 1
  | .ptr d => uptoBulk d + 1
  | .slice elems spare => uptoBulkAll elems + uptoBulkAll spare + 1
  | .agg parts => uptoBulkAll parts + 1
  | .iface _ d => uptoBulk d + 1
  | .map entries => uptoBulkEntries entries + 1
  | .held _ => 1
def uptoBulkAll {H : Type} : List (DataW H) → Nat
  | [] => 0
  | d :: r => uptoBulk d + uptoBulkAll r
def uptoBulkEntries {H : Type} : List (Lit × DataW H) → Nat
  | [] => 0
  | x :: r => uptoBulkEntry x + uptoBulkEntries r
def uptoBulkEntry {H : Type} : Lit × DataW H → Nat
  | (.string bytes, d) => bytes.length + uptoBulk d + 1
  | (_, d) => uptoBulk d + 1
 end
def uptoSmall : (H : Type) → List (DataW H) → Bool := fun _ ds => decide (uptoBulkAll ds ≤ 1048576)
def OpenSpec.upto (s : _root_.Go.ChangeSpec) : _root_.Go.OpenSpec := { _root_.Go.OpenSpec.ofChange s with cond := some uptoSmall }

/-- 'inklinglaw09.PrintTexts', WHERE WHAT IT READS IS OF BULK AT MOST 1048576: true; the input reads as it did. -/
def printTextsUptoRow : OpenClaim := { program := "ytckgmpifdkbeeaadoor", sum := "375f13096f612bc97a60a66492a3f52f307af9446d2e0e5867ac378c0e440c6b", func := "inkling/inklinglaw09.PrintTexts", spec := "printTexts", inPlace := ["internal/abi.NoEscape"], unfollowed := true, recurses := true, named := ["inkling/lex.reserved"], apart := false, laid := [("inkling/lex.reserved", laid_inkling_lex_reserved)], narrowed := true }
def PrintTextsUptoSaid : Prop := printTextsUptoRow.holds Tryd.pinned (OpenSpec.upto printTextsSpec)

/-- 'inklinglaw09.PrintQuotes', WHERE WHAT IT READS IS OF BULK AT MOST 1048576: true; the input reads as it did. -/
def printQuotesUptoRow : OpenClaim := { program := "ytckgmpifdkbeeaadoor", sum := "375f13096f612bc97a60a66492a3f52f307af9446d2e0e5867ac378c0e440c6b", func := "inkling/inklinglaw09.PrintQuotes", spec := "printQuotes", inPlace := ["internal/abi.NoEscape"], unfollowed := true, recurses := true, named := ["inkling/lex.reserved"], apart := false, laid := [("inkling/lex.reserved", laid_inkling_lex_reserved)], narrowed := true }
def PrintQuotesUptoSaid : Prop := printQuotesUptoRow.holds Tryd.pinned (OpenSpec.upto printQuotesSpec)

end Rows
end Go.Proofs.YtckgmpifdkbeeaaDoor
