/-
  NARROWER THAN 'FOR EVERY INPUT', by the rows' own cells (each row's printed sentence says how): PrintRule: laid.
  DERIVED. THE GIVEN ROWS OF THIS SEAT. 1 by the template 'for every input the law returns true; each argument reads behind the call as it read before'; 0 by the template 'total and deterministic' (their statements: YtmbjghhicbbgmaaDoorTotals.lean).
  GIVEN WITH THE SEED: the statements are not yours to turn. If you find one false, say at which input.
  Laid BY PROGRAM, IN A SANDBOX (cutbox-rows.mjs): the forced cells as the released guide's own fill.sh prints them over the translation b0a217fb3df691c8… (all of the seat's roots in one cut). By AI agents, Wed Nov 11 2026. No macro, syntax, notation, axiom, sorry.
-/
import Derived.Test.YtmbjghhicbbgmaaDoorChecked
import GoSem.Claim
import GoSem.ClaimJoined
import GoSem.ClaimMapViews
import Derived.JoinedTies
import Derived.KernelRfl
namespace Go.Proofs.YtmbjghhicbbgmaaDoor
/- THE CELL 'sum', in the pinned program and in every row, IS THE sha256 OF THE DUMP (.gsa) THAT YtmbjghhicbbgmaaDoorProg.lean LOADS. Nothing in Lean hashes anything: it is a label: what it is worth is what the hold of that sum in a sandbox is worth. -/
noncomputable def Tryd.pinned : Pinned := { name := "ytmbjghhicbbgmaadoor", sum := "b0a217fb3df691c84d7c03cb2a781a1c71fb40ba5710252802b1cdee857cfe90", checked := Tryd.checked }
namespace Rows
def none {H : Type} : Left H := { results := [], args := [] }

/- WHAT THE LISTED PACKAGE-LEVEL VARIABLES READ AS WHEN THE CALL BEGINS. Each datum BY PROGRAM (the guide's laid-datum.mjs) off the statement by which the dump's own 'gosem.cut.vars' lays the variable. In a bare row this is a premise. The card (YtmbjghhicbbgmaaDoorCards.lean) ties it to the program's text. -/
def laid_inkling_lex_reserved {H : Type} : DataW H := .agg [.lit (.string [105, 110, 112, 117, 116]), .lit (.string [111, 117, 116, 112, 117, 116]), .lit (.string [110, 111, 116])]

/-- 'inklinglaw09.PrintRule': WHATEVER THE INPUT: true; the input reads as it did. -/
def printRuleSpec : ChangeSpec := { name := "printRule", fn := fun _ => fun
  | [d] => { results := [.lit (.bool true)], args := [d] }
  | _ => none }
def printRuleRow : OpenClaim := { program := "ytmbjghhicbbgmaadoor", sum := "b0a217fb3df691c84d7c03cb2a781a1c71fb40ba5710252802b1cdee857cfe90", func := "inkling/inklinglaw09.PrintRule", spec := "printRule", inPlace := ["internal/abi.NoEscape"], unfollowed := true, recurses := true, named := ["inkling/lex.reserved"], apart := false, laid := [("inkling/lex.reserved", laid_inkling_lex_reserved)] }
def PrintRuleSaid : Prop := printRuleRow.holds Tryd.pinned (OpenSpec.ofChange printRuleSpec)

/-- ITS FALSE NEIGHBOUR: 'it returns false'. Refute it at one input. -/
def printRuleWrong : ChangeSpec := { name := "printRule", fn := fun _ => fun
  | [d] => { results := [.lit (.bool false)], args := [d] }
  | _ => none }
def PrintRuleWrongFalsely : Prop := printRuleRow.holds Tryd.pinned (OpenSpec.ofChange printRuleWrong)

/- THE SECOND FORM. 'bulk': how many values and letters a reading holds, each counted each time it is reached (what is shared counts as often as it is met; a slice's spare places count too). A statement '..UptoSaid' is the law's where the arguments, and the package variables that the reading takes, are together of bulk at most 1048576: NARROWER than '..Said'. Prove '..Said' where nothing that the law and all that it calls make is longer than what came in: it says more and counts as full. Else prove '..UptoSaid'. A law counts once. -/
mutual
def uptoBulk {H : Type} : DataW H → Nat
  | .lit (.string bytes) => bytes.length + 1
  | .lit _ => 1
  | .nil => 1
  | .ptr d => uptoBulk d + 1
  | .slice elems spare => uptoBulkAll elems + uptoBulkAll spare + 1
  | .agg parts => uptoBulkAll parts + 1
  | .iface _ d => uptoBulk d + 1
  | .map entries => uptoBulkEntries entries + 1
  | .held _ => 1
def uptoBulkAll {H : Type} : List (DataW H) → Nat
  | [] => 0
  | d :: r => uptoBulk d + uptoBulkAll r
def uptoBulkEntries {H : Type} : List (Lit × DataW H) → Nat
  | [] => 0
  | x :: r => uptoBulkEntry x + uptoBulkEntries r
def uptoBulkEntry {H : Type} : Lit × DataW H → Nat
  | (.string bytes, d) => bytes.length + uptoBulk d + 1
  | (_, d) => uptoBulk d + 1
 end
def uptoSmall : (H : Type) → List (DataW H) → Bool := fun _ ds => decide (uptoBulkAll ds ≤ 1048576)
def OpenSpec.upto (s : _root_.Go.ChangeSpec) : _root_.Go.OpenSpec := { _root_.Go.OpenSpec.ofChange s with cond := some uptoSmall }

/-- 'inklinglaw09.PrintRule', WHERE WHAT IT READS IS OF BULK AT MOST 1048576: true; the input reads as it did. -/
def printRuleUptoRow : OpenClaim := { program := "ytmbjghhicbbgmaadoor", sum := "b0a217fb3df691c84d7c03cb2a781a1c71fb40ba5710252802b1cdee857cfe90", func := "inkling/inklinglaw09.PrintRule", spec := "printRule", inPlace := ["internal/abi.NoEscape"], unfollowed := true, recurses := true, named := ["inkling/lex.reserved"], apart := false, laid := [("inkling/lex.reserved", laid_inkling_lex_reserved)], narrowed := true }
def PrintRuleUptoSaid : Prop := printRuleUptoRow.holds Tryd.pinned (OpenSpec.upto printRuleSpec)

end Rows
end Go.Proofs.YtmbjghhicbbgmaaDoor
