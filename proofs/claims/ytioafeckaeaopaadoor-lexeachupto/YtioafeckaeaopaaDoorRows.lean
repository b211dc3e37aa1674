/-
  NARROWER THAN 'FOR EVERY INPUT', by the rows' own cells (each row's printed sentence says how): LexTokens: laid · LexEach: laid · LexWords: laid · LexPieces: laid · LexBack: laid · LexByte: laid.
  DERIVED. THE GIVEN ROWS OF THIS SEAT. 6 by the template 'for every input the law returns true; each argument reads behind the call as it read before'; 0 by the template 'total and deterministic' (their statements: YtioafeckaeaopaaDoorTotals.lean).
  GIVEN WITH THE SEED: the statements are not yours to turn. If you find one false, say at which input.
  Laid BY PROGRAM, IN A SANDBOX (cutbox-rows.mjs): the forced cells as the released guide's own fill.sh prints them over the translation 657a380115464571… (all of the seat's roots in one cut). By AI agents, Wed Nov 11 2026. No macro, syntax, notation, axiom, sorry.
-/
import Derived.Test.YtioafeckaeaopaaDoorChecked
import GoSem.Claim
import GoSem.ClaimJoined
import GoSem.ClaimMapViews
import Derived.JoinedTies
import Derived.KernelRfl
namespace Go.Proofs.YtioafeckaeaopaaDoor
/- THE CELL 'sum', in the pinned program and in every row, IS THE sha256 OF THE DUMP (.gsa) THAT YtioafeckaeaopaaDoorProg.lean LOADS. Nothing in Lean hashes anything: it is a label: what it is worth is what the hold of that sum in a sandbox is worth. -/
noncomputable def Tryd.pinned : Pinned := { name := "ytioafeckaeaopaadoor", sum := "657a38011546457190421b0392cf71cdb7e01cf500b275acb18c3c6f579c719b", checked := Tryd.checked }
namespace Rows
def none {H : Type} : Left H := { results := [], args := [] }

/- WHAT THE LISTED PACKAGE-LEVEL VARIABLES READ AS WHEN THE CALL BEGINS. Each datum BY PROGRAM (the guide's laid-datum.mjs) off the statement by which the dump's own 'gosem.cut.vars' lays the variable. In a bare row this is a premise. The card (YtioafeckaeaopaaDoorCards.lean) ties it to the program's text. -/
def laid_inkling_lex_signs {H : Type} : DataW H := .agg [.lit (.string [40]), .lit (.string [41]), .lit (.string [44]), .lit (.string [46]), .lit (.string [47]), .lit (.string [58, 45]), .lit (.string [33, 61])]
def laid_inkling_lex_reserved {H : Type} : DataW H := .agg [.lit (.string [105, 110, 112, 117, 116]), .lit (.string [111, 117, 116, 112, 117, 116]), .lit (.string [110, 111, 116])]

/-- 'inklinglaw07.LexTokens': WHATEVER THE INPUT: true; the input reads as it did. -/
def lexTokensSpec : ChangeSpec := { name := "lexTokens", fn := fun _ => fun
  | [d] => { results := [.lit (.bool true)], args := [d] }
  | _ => none }
def lexTokensRow : OpenClaim := { program := "ytioafeckaeaopaadoor", sum := "657a38011546457190421b0392cf71cdb7e01cf500b275acb18c3c6f579c719b", func := "inkling/inklinglaw07.LexTokens", spec := "lexTokens", inPlace := ["internal/bytealg.IndexByteString", "internal/abi.NoEscape", "internal/bytealg.IndexString"], unfollowed := true, recurses := true, named := ["inkling/lex.reserved", "inkling/lex.signs", "internal/bytealg.MaxLen"], apart := false, laid := [("inkling/lex.signs", laid_inkling_lex_signs), ("inkling/lex.reserved", laid_inkling_lex_reserved)] }
def LexTokensSaid : Prop := lexTokensRow.holds Tryd.pinned (OpenSpec.ofChange lexTokensSpec)

/-- ITS FALSE NEIGHBOUR: 'it returns false'. Refute it at one input. -/
def lexTokensWrong : ChangeSpec := { name := "lexTokens", fn := fun _ => fun
  | [d] => { results := [.lit (.bool false)], args := [d] }
  | _ => none }
def LexTokensWrongFalsely : Prop := lexTokensRow.holds Tryd.pinned (OpenSpec.ofChange lexTokensWrong)

/-- 'inklinglaw07.LexEach': WHATEVER THE INPUT: true; the input reads as it did. -/
def lexEachSpec : ChangeSpec := { name := "lexEach", fn := fun _ => fun
  | [d1, d2] => { results := [.lit (.bool true)], args := [d1, d2] }
  | _ => none }
def lexEachRow : OpenClaim := { program := "ytioafeckaeaopaadoor", sum := "657a38011546457190421b0392cf71cdb7e01cf500b275acb18c3c6f579c719b", func := "inkling/inklinglaw07.LexEach", spec := "lexEach", inPlace := ["internal/bytealg.IndexByteString", "internal/abi.NoEscape", "internal/bytealg.IndexString"], unfollowed := true, recurses := true, named := ["inkling/lex.reserved", "inkling/lex.signs", "internal/bytealg.MaxLen"], apart := false, laid := [("inkling/lex.signs", laid_inkling_lex_signs), ("inkling/lex.reserved", laid_inkling_lex_reserved)] }
def LexEachSaid : Prop := lexEachRow.holds Tryd.pinned (OpenSpec.ofChange lexEachSpec)

/-- ITS FALSE NEIGHBOUR: 'it returns false'. Refute it at one input. -/
def lexEachWrong : ChangeSpec := { name := "lexEach", fn := fun _ => fun
  | [d1, d2] => { results := [.lit (.bool false)], args := [d1, d2] }
  | _ => none }
def LexEachWrongFalsely : Prop := lexEachRow.holds Tryd.pinned (OpenSpec.ofChange lexEachWrong)

/-- 'inklinglaw07.LexWords': WHATEVER THE INPUT: true; the input reads as it did. -/
def lexWordsSpec : ChangeSpec := { name := "lexWords", fn := fun _ => fun
  | [d] => { results := [.lit (.bool true)], args := [d] }
  | _ => none }
def lexWordsRow : OpenClaim := { program := "ytioafeckaeaopaadoor", sum := "657a38011546457190421b0392cf71cdb7e01cf500b275acb18c3c6f579c719b", func := "inkling/inklinglaw07.LexWords", spec := "lexWords", inPlace := ["internal/abi.NoEscape", "internal/bytealg.IndexByteString", "internal/bytealg.IndexString"], unfollowed := true, recurses := true, named := ["inkling/lex.reserved", "inkling/lex.signs", "internal/bytealg.MaxLen"], apart := false, laid := [("inkling/lex.signs", laid_inkling_lex_signs), ("inkling/lex.reserved", laid_inkling_lex_reserved)] }
def LexWordsSaid : Prop := lexWordsRow.holds Tryd.pinned (OpenSpec.ofChange lexWordsSpec)

/-- ITS FALSE NEIGHBOUR: 'it returns false'. Refute it at one input. -/
def lexWordsWrong : ChangeSpec := { name := "lexWords", fn := fun _ => fun
  | [d] => { results := [.lit (.bool false)], args := [d] }
  | _ => none }
def LexWordsWrongFalsely : Prop := lexWordsRow.holds Tryd.pinned (OpenSpec.ofChange lexWordsWrong)

/-- 'inklinglaw07.LexPieces': WHATEVER THE INPUT: true; the input reads as it did. -/
def lexPiecesSpec : ChangeSpec := { name := "lexPieces", fn := fun _ => fun
  | [d] => { results := [.lit (.bool true)], args := [d] }
  | _ => none }
def lexPiecesRow : OpenClaim := { program := "ytioafeckaeaopaadoor", sum := "657a38011546457190421b0392cf71cdb7e01cf500b275acb18c3c6f579c719b", func := "inkling/inklinglaw07.LexPieces", spec := "lexPieces", inPlace := ["internal/bytealg.IndexByteString", "internal/abi.NoEscape", "internal/bytealg.IndexString"], unfollowed := true, recurses := true, named := ["inkling/lex.reserved", "inkling/lex.signs", "internal/bytealg.MaxLen"], apart := false, laid := [("inkling/lex.signs", laid_inkling_lex_signs), ("inkling/lex.reserved", laid_inkling_lex_reserved)] }
def LexPiecesSaid : Prop := lexPiecesRow.holds Tryd.pinned (OpenSpec.ofChange lexPiecesSpec)

/-- ITS FALSE NEIGHBOUR: 'it returns false'. Refute it at one input. -/
def lexPiecesWrong : ChangeSpec := { name := "lexPieces", fn := fun _ => fun
  | [d] => { results := [.lit (.bool false)], args := [d] }
  | _ => none }
def LexPiecesWrongFalsely : Prop := lexPiecesRow.holds Tryd.pinned (OpenSpec.ofChange lexPiecesWrong)

/-- 'inklinglaw07.LexBack': WHATEVER THE INPUT: true; the input reads as it did. -/
def lexBackSpec : ChangeSpec := { name := "lexBack", fn := fun _ => fun
  | [d] => { results := [.lit (.bool true)], args := [d] }
  | _ => none }
def lexBackRow : OpenClaim := { program := "ytioafeckaeaopaadoor", sum := "657a38011546457190421b0392cf71cdb7e01cf500b275acb18c3c6f579c719b", func := "inkling/inklinglaw07.LexBack", spec := "lexBack", inPlace := ["internal/bytealg.IndexByteString", "internal/abi.NoEscape", "internal/bytealg.IndexString"], unfollowed := true, recurses := true, named := ["inkling/lex.reserved", "inkling/lex.signs", "internal/bytealg.MaxLen"], apart := false, laid := [("inkling/lex.signs", laid_inkling_lex_signs), ("inkling/lex.reserved", laid_inkling_lex_reserved)] }
def LexBackSaid : Prop := lexBackRow.holds Tryd.pinned (OpenSpec.ofChange lexBackSpec)

/-- ITS FALSE NEIGHBOUR: 'it returns false'. Refute it at one input. -/
def lexBackWrong : ChangeSpec := { name := "lexBack", fn := fun _ => fun
  | [d] => { results := [.lit (.bool false)], args := [d] }
  | _ => none }
def LexBackWrongFalsely : Prop := lexBackRow.holds Tryd.pinned (OpenSpec.ofChange lexBackWrong)

/-- 'inklinglaw07.LexByte': WHATEVER THE INPUT: true; the input reads as it did. -/
def lexByteSpec : ChangeSpec := { name := "lexByte", fn := fun _ => fun
  | [d1, d2] => { results := [.lit (.bool true)], args := [d1, d2] }
  | _ => none }
def lexByteRow : OpenClaim := { program := "ytioafeckaeaopaadoor", sum := "657a38011546457190421b0392cf71cdb7e01cf500b275acb18c3c6f579c719b", func := "inkling/inklinglaw07.LexByte", spec := "lexByte", inPlace := ["internal/bytealg.IndexByteString", "internal/abi.NoEscape", "internal/bytealg.IndexString"], unfollowed := true, recurses := true, named := ["inkling/lex.reserved", "inkling/lex.signs", "internal/bytealg.MaxLen"], apart := false, laid := [("inkling/lex.signs", laid_inkling_lex_signs), ("inkling/lex.reserved", laid_inkling_lex_reserved)] }
def LexByteSaid : Prop := lexByteRow.holds Tryd.pinned (OpenSpec.ofChange lexByteSpec)

/-- ITS FALSE NEIGHBOUR: 'it returns false'. Refute it at one input. -/
def lexByteWrong : ChangeSpec := { name := "lexByte", fn := fun _ => fun
  | [d1, d2] => { results := [.lit (.bool false)], args := [d1, d2] }
  | _ => none }
def LexByteWrongFalsely : Prop := lexByteRow.holds Tryd.pinned (OpenSpec.ofChange lexByteWrong)

/- THE SECOND FORM. 'bulk': how many values and letters a reading holds, each counted each time it is reached (what is shared counts as often as it is met; a slice's spare places count too). A statement '..UptoSaid' is the law's where the arguments, and the package variables that the reading takes, are together of bulk at most 1048576: NARROWER than '..Said'. Prove '..Said' where nothing that the law and all that it calls make is longer than what came in: it says more and counts as full. Else prove '..UptoSaid'. A law counts once. -/
mutual
def uptoBulk {H : Type} : DataW H → Nat
  | .lit (.string bytes) => bytes.length + 1
  | .lit _ => 1
  | .nil => 1
  | .ptr d => uptoBulk d + 1
  | .slice elems spare => uptoBulkAll elems + uptoBulkAll spare + 1
  | .agg parts => uptoBulkAll parts + 1
  | .iface _ d => uptoBulk d + 1
  | .map entries => uptoBulkEntries entries + 1
  | .held _ => 1
def uptoBulkAll {H : Type} : List (DataW H) → Nat
  | [] => 0
  | d :: r => uptoBulk d + uptoBulkAll r
def uptoBulkEntries {H : Type} : List (Lit × DataW H) → Nat
  | [] => 0
  | x :: r => uptoBulkEntry x + uptoBulkEntries r
def uptoBulkEntry {H : Type} : Lit × DataW H → Nat
  | (.string bytes, d) => bytes.length + uptoBulk d + 1
  | (_, d) => uptoBulk d + 1
 end
def uptoSmall : (H : Type) → List (DataW H) → Bool := fun _ ds => decide (uptoBulkAll ds ≤ 1048576)
def OpenSpec.upto (s : _root_.Go.ChangeSpec) : _root_.Go.OpenSpec := { _root_.Go.OpenSpec.ofChange s with cond := some uptoSmall }

/-- 'inklinglaw07.LexTokens', WHERE WHAT IT READS IS OF BULK AT MOST 1048576: true; the input reads as it did. -/
def lexTokensUptoRow : OpenClaim := { program := "ytioafeckaeaopaadoor", sum := "657a38011546457190421b0392cf71cdb7e01cf500b275acb18c3c6f579c719b", func := "inkling/inklinglaw07.LexTokens", spec := "lexTokens", inPlace := ["internal/bytealg.IndexByteString", "internal/abi.NoEscape", "internal/bytealg.IndexString"], unfollowed := true, recurses := true, named := ["inkling/lex.reserved", "inkling/lex.signs", "internal/bytealg.MaxLen"], apart := false, laid := [("inkling/lex.signs", laid_inkling_lex_signs), ("inkling/lex.reserved", laid_inkling_lex_reserved)], narrowed := true }
def LexTokensUptoSaid : Prop := lexTokensUptoRow.holds Tryd.pinned (OpenSpec.upto lexTokensSpec)

/-- 'inklinglaw07.LexEach', WHERE WHAT IT READS IS OF BULK AT MOST 1048576: true; the input reads as it did. -/
def lexEachUptoRow : OpenClaim := { program := "ytioafeckaeaopaadoor", sum := "657a38011546457190421b0392cf71cdb7e01cf500b275acb18c3c6f579c719b", func := "inkling/inklinglaw07.LexEach", spec := "lexEach", inPlace := ["internal/bytealg.IndexByteString", "internal/abi.NoEscape", "internal/bytealg.IndexString"], unfollowed := true, recurses := true, named := ["inkling/lex.reserved", "inkling/lex.signs", "internal/bytealg.MaxLen"], apart := false, laid := [("inkling/lex.signs", laid_inkling_lex_signs), ("inkling/lex.reserved", laid_inkling_lex_reserved)], narrowed := true }
def LexEachUptoSaid : Prop := lexEachUptoRow.holds Tryd.pinned (OpenSpec.upto lexEachSpec)

/-- 'inklinglaw07.LexWords', WHERE WHAT IT READS IS OF BULK AT MOST 1048576: true; the input reads as it did. -/
def lexWordsUptoRow : OpenClaim := { program := "ytioafeckaeaopaadoor", sum := "657a38011546457190421b0392cf71cdb7e01cf500b275acb18c3c6f579c719b", func := "inkling/inklinglaw07.LexWords", spec := "lexWords", inPlace := ["internal/abi.NoEscape", "internal/bytealg.IndexByteString", "internal/bytealg.IndexString"], unfollowed := true, recurses := true, named := ["inkling/lex.reserved", "inkling/lex.signs", "internal/bytealg.MaxLen"], apart := false, laid := [("inkling/lex.signs", laid_inkling_lex_signs), ("inkling/lex.reserved", laid_inkling_lex_reserved)], narrowed := true }
def LexWordsUptoSaid : Prop := lexWordsUptoRow.holds Tryd.pinned (OpenSpec.upto lexWordsSpec)

/-- 'inklinglaw07.LexPieces', WHERE WHAT IT READS IS OF BULK AT MOST 1048576: true; the input reads as it did. -/
def lexPiecesUptoRow : OpenClaim := { program := "ytioafeckaeaopaadoor", sum := "657a38011546457190421b0392cf71cdb7e01cf500b275acb18c3c6f579c719b", func := "inkling/inklinglaw07.LexPieces", spec := "lexPieces", inPlace := ["internal/bytealg.IndexByteString", "internal/abi.NoEscape", "internal/bytealg.IndexString"], unfollowed := true, recurses := true, named := ["inkling/lex.reserved", "inkling/lex.signs", "internal/bytealg.MaxLen"], apart := false, laid := [("inkling/lex.signs", laid_inkling_lex_signs), ("inkling/lex.reserved", laid_inkling_lex_reserved)], narrowed := true }
def LexPiecesUptoSaid : Prop := lexPiecesUptoRow.holds Tryd.pinned (OpenSpec.upto lexPiecesSpec)

/-- 'inklinglaw07.LexBack', WHERE WHAT IT READS IS OF BULK AT MOST 1048576: true; the input reads as it did. -/
def lexBackUptoRow : OpenClaim := { program := "ytioafeckaeaopaadoor", sum := "657a38011546457190421b0392cf71cdb7e01cf500b275acb18c3c6f579c719b", func := "inkling/inklinglaw07.LexBack", spec := "lexBack", inPlace := ["internal/bytealg.IndexByteString", "internal/abi.NoEscape", "internal/bytealg.IndexString"], unfollowed := true, recurses := true, named := ["inkling/lex.reserved", "inkling/lex.signs", "internal/bytealg.MaxLen"], apart := false, laid := [("inkling/lex.signs", laid_inkling_lex_signs), ("inkling/lex.reserved", laid_inkling_lex_reserved)], narrowed := true }
def LexBackUptoSaid : Prop := lexBackUptoRow.holds Tryd.pinned (OpenSpec.upto lexBackSpec)

/-- 'inklinglaw07.LexByte', WHERE WHAT IT READS IS OF BULK AT MOST 1048576: true; the input reads as it did. -/
def lexByteUptoRow : OpenClaim := { program := "ytioafeckaeaopaadoor", sum := "657a38011546457190421b0392cf71cdb7e01cf500b275acb18c3c6f579c719b", func := "inkling/inklinglaw07.LexByte", spec := "lexByte", inPlace := ["internal/bytealg.IndexByteString", "internal/abi.NoEscape", "internal/bytealg.IndexString"], unfollowed := true, recurses := true, named := ["inkling/lex.reserved", "inkling/lex.signs", "internal/bytealg.MaxLen"], apart := false, laid := [("inkling/lex.signs", laid_inkling_lex_signs), ("inkling/lex.reserved", laid_inkling_lex_reserved)], narrowed := true }
def LexByteUptoSaid : Prop := lexByteUptoRow.holds Tryd.pinned (OpenSpec.upto lexByteSpec)

end Rows
end Go.Proofs.YtioafeckaeaopaaDoor
