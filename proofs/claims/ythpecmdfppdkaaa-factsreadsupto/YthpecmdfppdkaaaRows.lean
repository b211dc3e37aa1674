/-
  No cell of these rows narrows 'for every input' (looked for: loops, veiled, ifaces, maps, wideKeys, modest, calm, conditions, laid).
  DERIVED. THE GIVEN ROWS OF THIS SEAT. 6 by the template 'for every input the law returns true; each argument reads behind the call as it read before'; 0 by the template 'total and deterministic' (their statements: YthpecmdfppdkaaaTotals.lean).
  GIVEN WITH THE SEED: the statements are not yours to turn. If you find one false, say at which input.
  Laid BY PROGRAM, IN A SANDBOX (cutbox-rows.mjs): the forced cells as the released guide's own fill.sh prints them over the translation a66811d98f692185… (all of the seat's roots in one cut). By AI agents, Wed Nov 11 2026. No macro, syntax, notation, axiom, sorry.
-/
import Derived.Test.YthpecmdfppdkaaaChecked
import GoSem.Claim
import GoSem.ClaimJoined
import GoSem.ClaimMapViews
import Derived.JoinedTies
import Derived.KernelRfl
namespace Go.Proofs.Ythpecmdfppdkaaa
/- THE CELL 'sum', in the pinned program and in every row, IS THE sha256 OF THE DUMP (.gsa) THAT YthpecmdfppdkaaaProg.lean LOADS. Nothing in Lean hashes anything: it is a label: what it is worth is what the hold of that sum in a sandbox is worth. -/
noncomputable def Try.pinned : Pinned := { name := "ythpecmdfppdkaaa", sum := "a66811d98f692185900d8dfcbffbbd39e65c887d4bbb6a09090f81b97fff6fa8", checked := Try.checked }
namespace Rows
def none {H : Type} : Left H := { results := [], args := [] }

/-- 'inklinglaw10.FactsFields': WHATEVER THE INPUT: true; the input reads as it did. -/
def factsFieldsSpec : ChangeSpec := { name := "factsFields", fn := fun _ => fun
  | [d] => { results := [.lit (.bool true)], args := [d] }
  | _ => none }
def factsFieldsRow : OpenClaim := { program := "ythpecmdfppdkaaa", sum := "a66811d98f692185900d8dfcbffbbd39e65c887d4bbb6a09090f81b97fff6fa8", func := "inkling/inklinglaw10.FactsFields", spec := "factsFields", inPlace := ["internal/abi.NoEscape", "internal/bytealg.IndexByteString", "internal/bytealg.IndexString", "internal/bytealg.CountString"], unfollowed := true, recurses := true, named := ["internal/bytealg.MaxLen"], apart := false }
def FactsFieldsSaid : Prop := factsFieldsRow.holds Try.pinned (OpenSpec.ofChange factsFieldsSpec)

/-- ITS FALSE NEIGHBOUR: 'it returns false'. Refute it at one input. -/
def factsFieldsWrong : ChangeSpec := { name := "factsFields", fn := fun _ => fun
  | [d] => { results := [.lit (.bool false)], args := [d] }
  | _ => none }
def FactsFieldsWrongFalsely : Prop := factsFieldsRow.holds Try.pinned (OpenSpec.ofChange factsFieldsWrong)

/-- 'inklinglaw10.FactsLine': WHATEVER THE INPUT: true; the input reads as it did. -/
def factsLineSpec : ChangeSpec := { name := "factsLine", fn := fun _ => fun
  | [d] => { results := [.lit (.bool true)], args := [d] }
  | _ => none }
def factsLineRow : OpenClaim := { program := "ythpecmdfppdkaaa", sum := "a66811d98f692185900d8dfcbffbbd39e65c887d4bbb6a09090f81b97fff6fa8", func := "inkling/inklinglaw10.FactsLine", spec := "factsLine", inPlace := ["internal/abi.NoEscape", "internal/bytealg.IndexByteString", "internal/bytealg.IndexString", "internal/bytealg.CountString"], unfollowed := true, recurses := true, named := ["internal/bytealg.MaxLen"], apart := false }
def FactsLineSaid : Prop := factsLineRow.holds Try.pinned (OpenSpec.ofChange factsLineSpec)

/-- ITS FALSE NEIGHBOUR: 'it returns false'. Refute it at one input. -/
def factsLineWrong : ChangeSpec := { name := "factsLine", fn := fun _ => fun
  | [d] => { results := [.lit (.bool false)], args := [d] }
  | _ => none }
def FactsLineWrongFalsely : Prop := factsLineRow.holds Try.pinned (OpenSpec.ofChange factsLineWrong)

/-- 'inklinglaw10.FactsReads': WHATEVER THE INPUT: true; the input reads as it did. -/
def factsReadsSpec : ChangeSpec := { name := "factsReads", fn := fun _ => fun
  | [d1, d2] => { results := [.lit (.bool true)], args := [d1, d2] }
  | _ => none }
def factsReadsRow : OpenClaim := { program := "ythpecmdfppdkaaa", sum := "a66811d98f692185900d8dfcbffbbd39e65c887d4bbb6a09090f81b97fff6fa8", func := "inkling/inklinglaw10.FactsReads", spec := "factsReads", inPlace := ["internal/bytealg.IndexByteString", "internal/bytealg.IndexString", "internal/bytealg.CountString", "internal/abi.NoEscape"], unfollowed := true, recurses := true, named := ["internal/bytealg.MaxLen"], apart := false }
def FactsReadsSaid : Prop := factsReadsRow.holds Try.pinned (OpenSpec.ofChange factsReadsSpec)

/-- ITS FALSE NEIGHBOUR: 'it returns false'. Refute it at one input. -/
def factsReadsWrong : ChangeSpec := { name := "factsReads", fn := fun _ => fun
  | [d1, d2] => { results := [.lit (.bool false)], args := [d1, d2] }
  | _ => none }
def FactsReadsWrongFalsely : Prop := factsReadsRow.holds Try.pinned (OpenSpec.ofChange factsReadsWrong)

/-- 'inklinglaw10.FactsWrites': WHATEVER THE INPUT: true; the input reads as it did. -/
def factsWritesSpec : ChangeSpec := { name := "factsWrites", fn := fun _ => fun
  | [d1, d2, d3] => { results := [.lit (.bool true)], args := [d1, d2, d3] }
  | _ => none }
def factsWritesRow : OpenClaim := { program := "ythpecmdfppdkaaa", sum := "a66811d98f692185900d8dfcbffbbd39e65c887d4bbb6a09090f81b97fff6fa8", func := "inkling/inklinglaw10.FactsWrites", spec := "factsWrites", inPlace := ["internal/abi.NoEscape", "internal/bytealg.IndexByteString", "internal/bytealg.IndexString", "internal/bytealg.CountString"], unfollowed := true, recurses := true, named := ["internal/bytealg.MaxLen"], apart := false }
def FactsWritesSaid : Prop := factsWritesRow.holds Try.pinned (OpenSpec.ofChange factsWritesSpec)

/-- ITS FALSE NEIGHBOUR: 'it returns false'. Refute it at one input. -/
def factsWritesWrong : ChangeSpec := { name := "factsWrites", fn := fun _ => fun
  | [d1, d2, d3] => { results := [.lit (.bool false)], args := [d1, d2, d3] }
  | _ => none }
def FactsWritesWrongFalsely : Prop := factsWritesRow.holds Try.pinned (OpenSpec.ofChange factsWritesWrong)

/-- 'inklinglaw10.FactsBack': WHATEVER THE INPUT: true; the input reads as it did. -/
def factsBackSpec : ChangeSpec := { name := "factsBack", fn := fun _ => fun
  | [d1, d2] => { results := [.lit (.bool true)], args := [d1, d2] }
  | _ => none }
def factsBackRow : OpenClaim := { program := "ythpecmdfppdkaaa", sum := "a66811d98f692185900d8dfcbffbbd39e65c887d4bbb6a09090f81b97fff6fa8", func := "inkling/inklinglaw10.FactsBack", spec := "factsBack", inPlace := ["internal/bytealg.IndexByteString", "internal/bytealg.IndexString", "internal/bytealg.CountString", "internal/abi.NoEscape"], unfollowed := true, recurses := true, named := ["internal/bytealg.MaxLen"], apart := false }
def FactsBackSaid : Prop := factsBackRow.holds Try.pinned (OpenSpec.ofChange factsBackSpec)

/-- ITS FALSE NEIGHBOUR: 'it returns false'. Refute it at one input. -/
def factsBackWrong : ChangeSpec := { name := "factsBack", fn := fun _ => fun
  | [d1, d2] => { results := [.lit (.bool false)], args := [d1, d2] }
  | _ => none }
def FactsBackWrongFalsely : Prop := factsBackRow.holds Try.pinned (OpenSpec.ofChange factsBackWrong)

/-- 'inklinglaw10.FactsThere': WHATEVER THE INPUT: true; the input reads as it did. -/
def factsThereSpec : ChangeSpec := { name := "factsThere", fn := fun _ => fun
  | [d1, d2] => { results := [.lit (.bool true)], args := [d1, d2] }
  | _ => none }
def factsThereRow : OpenClaim := { program := "ythpecmdfppdkaaa", sum := "a66811d98f692185900d8dfcbffbbd39e65c887d4bbb6a09090f81b97fff6fa8", func := "inkling/inklinglaw10.FactsThere", spec := "factsThere", inPlace := ["internal/bytealg.IndexByteString", "internal/bytealg.IndexString", "internal/bytealg.CountString", "internal/abi.NoEscape"], unfollowed := true, recurses := true, named := ["internal/bytealg.MaxLen"], apart := false }
def FactsThereSaid : Prop := factsThereRow.holds Try.pinned (OpenSpec.ofChange factsThereSpec)

/-- ITS FALSE NEIGHBOUR: 'it returns false'. Refute it at one input. -/
def factsThereWrong : ChangeSpec := { name := "factsThere", fn := fun _ => fun
  | [d1, d2] => { results := [.lit (.bool false)], args := [d1, d2] }
  | _ => none }
def FactsThereWrongFalsely : Prop := factsThereRow.holds Try.pinned (OpenSpec.ofChange factsThereWrong)

/- THE SECOND FORM. 'bulk': how many values and letters a reading holds, each counted each time it is reached (what is shared counts as often as it is met; a slice's spare places count too). A statement '..UptoSaid' is the law's where the arguments, and the package variables that the reading takes, are together of bulk at most 1048576: NARROWER than '..Said'. Prove '..Said' where nothing that the law and all that it calls make is longer than what came in: it says more and counts as full. Else prove '..UptoSaid'. A law counts once. -/
mutual
def uptoBulk {H : Type} : DataW H → Nat
  | .lit (.string bytes) => bytes.length + 1
  | .lit _ => 1
  | .nil => 1
  | .ptr d => uptoBulk d + 1
  | .slice elems spare => uptoBulkAll elems + uptoBulkAll spare + 1
  | .agg parts => uptoBulkAll parts + 1
  | .iface _ d => uptoBulk d + 1
  | .map entries => uptoBulkEntries entries + 1
  | .held _ => 1
def uptoBulkAll {H : Type} : List (DataW H) → Nat
  | [] => 0
  | d :: r => uptoBulk d + uptoBulkAll r
def uptoBulkEntries {H : Type} : List (Lit × DataW H) → Nat
  | [] => 0
  | x :: r => uptoBulkEntry x + uptoBulkEntries r
def uptoBulkEntry {H : Type} : Lit × DataW H → Nat
  | (.string bytes, d) => bytes.length + uptoBulk d + 1
  | (_, d) => uptoBulk d + 1
 end
def uptoSmall : (H : Type) → List (DataW H) → Bool := fun _ ds => decide (uptoBulkAll ds ≤ 1048576)
def OpenSpec.upto (s : _root_.Go.ChangeSpec) : _root_.Go.OpenSpec := { _root_.Go.OpenSpec.ofChange s with cond := some uptoSmall }

/-- 'inklinglaw10.FactsFields', WHERE WHAT IT READS IS OF BULK AT MOST 1048576: true; the input reads as it did. -/
def factsFieldsUptoRow : OpenClaim := { program := "ythpecmdfppdkaaa", sum := "a66811d98f692185900d8dfcbffbbd39e65c887d4bbb6a09090f81b97fff6fa8", func := "inkling/inklinglaw10.FactsFields", spec := "factsFields", inPlace := ["internal/abi.NoEscape", "internal/bytealg.IndexByteString", "internal/bytealg.IndexString", "internal/bytealg.CountString"], unfollowed := true, recurses := true, named := ["internal/bytealg.MaxLen"], apart := false, narrowed := true }
def FactsFieldsUptoSaid : Prop := factsFieldsUptoRow.holds Try.pinned (OpenSpec.upto factsFieldsSpec)

/-- 'inklinglaw10.FactsLine', WHERE WHAT IT READS IS OF BULK AT MOST 1048576: true; the input reads as it did. -/
def factsLineUptoRow : OpenClaim := { program := "ythpecmdfppdkaaa", sum := "a66811d98f692185900d8dfcbffbbd39e65c887d4bbb6a09090f81b97fff6fa8", func := "inkling/inklinglaw10.FactsLine", spec := "factsLine", inPlace := ["internal/abi.NoEscape", "internal/bytealg.IndexByteString", "internal/bytealg.IndexString", "internal/bytealg.CountString"], unfollowed := true, recurses := true, named := ["internal/bytealg.MaxLen"], apart := false, narrowed := true }
def FactsLineUptoSaid : Prop := factsLineUptoRow.holds Try.pinned (OpenSpec.upto factsLineSpec)

/-- 'inklinglaw10.FactsReads', WHERE WHAT IT READS IS OF BULK AT MOST 1048576: true; the input reads as it did. -/
def factsReadsUptoRow : OpenClaim := { program := "ythpecmdfppdkaaa", sum := "a66811d98f692185900d8dfcbffbbd39e65c887d4bbb6a09090f81b97fff6fa8", func := "inkling/inklinglaw10.FactsReads", spec := "factsReads", inPlace := ["internal/bytealg.IndexByteString", "internal/bytealg.IndexString", "internal/bytealg.CountString", "internal/abi.NoEscape"], unfollowed := true, recurses := true, named := ["internal/bytealg.MaxLen"], apart := false, narrowed := true }
def FactsReadsUptoSaid : Prop := factsReadsUptoRow.holds Try.pinned (OpenSpec.upto factsReadsSpec)

/-- 'inklinglaw10.FactsWrites', WHERE WHAT IT READS IS OF BULK AT MOST 1048576: true; the input reads as it did. -/
def factsWritesUptoRow : OpenClaim := { program := "ythpecmdfppdkaaa", sum := "a66811d98f692185900d8dfcbffbbd39e65c887d4bbb6a09090f81b97fff6fa8", func := "inkling/inklinglaw10.FactsWrites", spec := "factsWrites", inPlace := ["internal/abi.NoEscape", "internal/bytealg.IndexByteString", "internal/bytealg.IndexString", "internal/bytealg.CountString"], unfollowed := true, recurses := true, named := ["internal/bytealg.MaxLen"], apart := false, narrowed := true }
def FactsWritesUptoSaid : Prop := factsWritesUptoRow.holds Try.pinned (OpenSpec.upto factsWritesSpec)

/-- 'inklinglaw10.FactsBack', WHERE WHAT IT READS IS OF BULK AT MOST 1048576: true; the input reads as it did. -/
def factsBackUptoRow : OpenClaim := { program := "ythpecmdfppdkaaa", sum := "a66811d98f692185900d8dfcbffbbd39e65c887d4bbb6a09090f81b97fff6fa8", func := "inkling/inklinglaw10.FactsBack", spec := "factsBack", inPlace := ["internal/bytealg.IndexByteString", "internal/bytealg.IndexString", "internal/bytealg.CountString", "internal/abi.NoEscape"], unfollowed := true, recurses := true, named := ["internal/bytealg.MaxLen"], apart := false, narrowed := true }
def FactsBackUptoSaid : Prop := factsBackUptoRow.holds Try.pinned (OpenSpec.upto factsBackSpec)

/-- 'inklinglaw10.FactsThere', WHERE WHAT IT READS IS OF BULK AT MOST 1048576: true; the input reads as it did. -/
def factsThereUptoRow : OpenClaim := { program := "ythpecmdfppdkaaa", sum := "a66811d98f692185900d8dfcbffbbd39e65c887d4bbb6a09090f81b97fff6fa8", func := "inkling/inklinglaw10.FactsThere", spec := "factsThere", inPlace := ["internal/bytealg.IndexByteString", "internal/bytealg.IndexString", "internal/bytealg.CountString", "internal/abi.NoEscape"], unfollowed := true, recurses := true, named := ["internal/bytealg.MaxLen"], apart := false, narrowed := true }
def FactsThereUptoSaid : Prop := factsThereUptoRow.holds Try.pinned (OpenSpec.upto factsThereSpec)

end Rows
end Go.Proofs.Ythpecmdfppdkaaa
