/-
  No cell of these rows narrows 'for every input' (looked for: loops, veiled, ifaces, maps, wideKeys, modest, calm, conditions, laid).
  DERIVED. THE GIVEN ROWS OF THIS SEAT. 12 by the template 'for every input the law returns true; each argument reads behind the call as it read before'; 0 by the template 'total and deterministic' (their statements: YtliohokcjgcmhaaTotals.lean).
  GIVEN WITH THE SEED: the statements are not yours to turn. If you find one false, say at which input.
  Laid BY PROGRAM, IN A SANDBOX (cutbox-rows.mjs): the forced cells as the released guide's own fill.sh prints them over the translation fd89e65c09044d98… (all of the seat's roots in one cut). By AI agents, Wed Nov 11 2026. No macro, syntax, notation, axiom, sorry.
-/
import Derived.Test.YtliohokcjgcmhaaChecked
import GoSem.Claim
import GoSem.ClaimJoined
import GoSem.ClaimMapViews
import Derived.JoinedTies
import Derived.KernelRfl
namespace Go.Proofs.Ytliohokcjgcmhaa
/- THE CELL 'sum', in the pinned program and in every row, IS THE sha256 OF THE DUMP (.gsa) THAT YtliohokcjgcmhaaProg.lean LOADS. Nothing in Lean hashes anything: it is a label: what it is worth is what the hold of that sum in a sandbox is worth. -/
noncomputable def Try.pinned : Pinned := { name := "ytliohokcjgcmhaa", sum := "fd89e65c09044d98f0d4e6ba5cc1040161a8f30bd5bcf28645f797b18d50373a", checked := Try.checked }
namespace Rows
def none {H : Type} : Left H := { results := [], args := [] }

/-- 'laws.FnExactMachineOfWord': WHATEVER THE INPUT: true; the input reads as it did. -/
def fnExactMachineOfWordSpec : ChangeSpec := { name := "fnExactMachineOfWord", fn := fun _ => fun
  | [d1, d2] => { results := [.lit (.bool true)], args := [d1, d2] }
  | _ => none }
def fnExactMachineOfWordRow : OpenClaim := { program := "ytliohokcjgcmhaa", sum := "fd89e65c09044d98f0d4e6ba5cc1040161a8f30bd5bcf28645f797b18d50373a", func := "loop.example/g01244/laws.FnExactMachineOfWord", spec := "fnExactMachineOfWord", unfollowed := true, recurses := true, plainKeys := false, apart := false }
def FnExactMachineOfWordSaid : Prop := fnExactMachineOfWordRow.holds Try.pinned (OpenSpec.ofChange fnExactMachineOfWordSpec)

/-- ITS FALSE NEIGHBOUR: 'it returns false'. Refute it at one input. -/
def fnExactMachineOfWordWrong : ChangeSpec := { name := "fnExactMachineOfWord", fn := fun _ => fun
  | [d1, d2] => { results := [.lit (.bool false)], args := [d1, d2] }
  | _ => none }
def FnExactMachineOfWordWrongFalsely : Prop := fnExactMachineOfWordRow.holds Try.pinned (OpenSpec.ofChange fnExactMachineOfWordWrong)

/-- 'laws.FnExactSectionsOfLevel': WHATEVER THE INPUT: true; the input reads as it did. -/
def fnExactSectionsOfLevelSpec : ChangeSpec := { name := "fnExactSectionsOfLevel", fn := fun _ => fun
  | [d1, d2, d3] => { results := [.lit (.bool true)], args := [d1, d2, d3] }
  | _ => none }
def fnExactSectionsOfLevelRow : OpenClaim := { program := "ytliohokcjgcmhaa", sum := "fd89e65c09044d98f0d4e6ba5cc1040161a8f30bd5bcf28645f797b18d50373a", func := "loop.example/g01244/laws.FnExactSectionsOfLevel", spec := "fnExactSectionsOfLevel", unfollowed := true, recurses := true, plainKeys := false, apart := false }
def FnExactSectionsOfLevelSaid : Prop := fnExactSectionsOfLevelRow.holds Try.pinned (OpenSpec.ofChange fnExactSectionsOfLevelSpec)

/-- ITS FALSE NEIGHBOUR: 'it returns false'. Refute it at one input. -/
def fnExactSectionsOfLevelWrong : ChangeSpec := { name := "fnExactSectionsOfLevel", fn := fun _ => fun
  | [d1, d2, d3] => { results := [.lit (.bool false)], args := [d1, d2, d3] }
  | _ => none }
def FnExactSectionsOfLevelWrongFalsely : Prop := fnExactSectionsOfLevelRow.holds Try.pinned (OpenSpec.ofChange fnExactSectionsOfLevelWrong)

/-- 'laws.FnExactSectionLengths': WHATEVER THE INPUT: true; the input reads as it did. -/
def fnExactSectionLengthsSpec : ChangeSpec := { name := "fnExactSectionLengths", fn := fun _ => fun
  | [d1, d2, d3] => { results := [.lit (.bool true)], args := [d1, d2, d3] }
  | _ => none }
def fnExactSectionLengthsRow : OpenClaim := { program := "ytliohokcjgcmhaa", sum := "fd89e65c09044d98f0d4e6ba5cc1040161a8f30bd5bcf28645f797b18d50373a", func := "loop.example/g01244/laws.FnExactSectionLengths", spec := "fnExactSectionLengths", unfollowed := true, recurses := true, plainKeys := false, apart := false }
def FnExactSectionLengthsSaid : Prop := fnExactSectionLengthsRow.holds Try.pinned (OpenSpec.ofChange fnExactSectionLengthsSpec)

/-- ITS FALSE NEIGHBOUR: 'it returns false'. Refute it at one input. -/
def fnExactSectionLengthsWrong : ChangeSpec := { name := "fnExactSectionLengths", fn := fun _ => fun
  | [d1, d2, d3] => { results := [.lit (.bool false)], args := [d1, d2, d3] }
  | _ => none }
def FnExactSectionLengthsWrongFalsely : Prop := fnExactSectionLengthsRow.holds Try.pinned (OpenSpec.ofChange fnExactSectionLengthsWrong)

/-- 'laws.FnExactLastingSections': WHATEVER THE INPUT: true; the input reads as it did. -/
def fnExactLastingSectionsSpec : ChangeSpec := { name := "fnExactLastingSections", fn := fun _ => fun
  | [d1, d2] => { results := [.lit (.bool true)], args := [d1, d2] }
  | _ => none }
def fnExactLastingSectionsRow : OpenClaim := { program := "ytliohokcjgcmhaa", sum := "fd89e65c09044d98f0d4e6ba5cc1040161a8f30bd5bcf28645f797b18d50373a", func := "loop.example/g01244/laws.FnExactLastingSections", spec := "fnExactLastingSections", unfollowed := true, recurses := true, plainKeys := false, apart := false }
def FnExactLastingSectionsSaid : Prop := fnExactLastingSectionsRow.holds Try.pinned (OpenSpec.ofChange fnExactLastingSectionsSpec)

/-- ITS FALSE NEIGHBOUR: 'it returns false'. Refute it at one input. -/
def fnExactLastingSectionsWrong : ChangeSpec := { name := "fnExactLastingSections", fn := fun _ => fun
  | [d1, d2] => { results := [.lit (.bool false)], args := [d1, d2] }
  | _ => none }
def FnExactLastingSectionsWrongFalsely : Prop := fnExactLastingSectionsRow.holds Try.pinned (OpenSpec.ofChange fnExactLastingSectionsWrong)

/-- 'laws.FnExactNucleusOf': WHATEVER THE INPUT: true; the input reads as it did. -/
def fnExactNucleusOfSpec : ChangeSpec := { name := "fnExactNucleusOf", fn := fun _ => fun
  | [d] => { results := [.lit (.bool true)], args := [d] }
  | _ => none }
def fnExactNucleusOfRow : OpenClaim := { program := "ytliohokcjgcmhaa", sum := "fd89e65c09044d98f0d4e6ba5cc1040161a8f30bd5bcf28645f797b18d50373a", func := "loop.example/g01244/laws.FnExactNucleusOf", spec := "fnExactNucleusOf", unfollowed := true, recurses := true, plainKeys := false, apart := false }
def FnExactNucleusOfSaid : Prop := fnExactNucleusOfRow.holds Try.pinned (OpenSpec.ofChange fnExactNucleusOfSpec)

/-- ITS FALSE NEIGHBOUR: 'it returns false'. Refute it at one input. -/
def fnExactNucleusOfWrong : ChangeSpec := { name := "fnExactNucleusOf", fn := fun _ => fun
  | [d] => { results := [.lit (.bool false)], args := [d] }
  | _ => none }
def FnExactNucleusOfWrongFalsely : Prop := fnExactNucleusOfRow.holds Try.pinned (OpenSpec.ofChange fnExactNucleusOfWrong)

/-- 'laws.FnExactIsClosedList': WHATEVER THE INPUT: true; the input reads as it did. -/
def fnExactIsClosedListSpec : ChangeSpec := { name := "fnExactIsClosedList", fn := fun _ => fun
  | [d1, d2] => { results := [.lit (.bool true)], args := [d1, d2] }
  | _ => none }
def fnExactIsClosedListRow : OpenClaim := { program := "ytliohokcjgcmhaa", sum := "fd89e65c09044d98f0d4e6ba5cc1040161a8f30bd5bcf28645f797b18d50373a", func := "loop.example/g01244/laws.FnExactIsClosedList", spec := "fnExactIsClosedList", unfollowed := true, recurses := true, plainKeys := false, apart := false }
def FnExactIsClosedListSaid : Prop := fnExactIsClosedListRow.holds Try.pinned (OpenSpec.ofChange fnExactIsClosedListSpec)

/-- ITS FALSE NEIGHBOUR: 'it returns false'. Refute it at one input. -/
def fnExactIsClosedListWrong : ChangeSpec := { name := "fnExactIsClosedList", fn := fun _ => fun
  | [d1, d2] => { results := [.lit (.bool false)], args := [d1, d2] }
  | _ => none }
def FnExactIsClosedListWrongFalsely : Prop := fnExactIsClosedListRow.holds Try.pinned (OpenSpec.ofChange fnExactIsClosedListWrong)

/-- 'laws.FnExactDepthOfList': WHATEVER THE INPUT: true; the input reads as it did. -/
def fnExactDepthOfListSpec : ChangeSpec := { name := "fnExactDepthOfList", fn := fun _ => fun
  | [d1, d2] => { results := [.lit (.bool true)], args := [d1, d2] }
  | _ => none }
def fnExactDepthOfListRow : OpenClaim := { program := "ytliohokcjgcmhaa", sum := "fd89e65c09044d98f0d4e6ba5cc1040161a8f30bd5bcf28645f797b18d50373a", func := "loop.example/g01244/laws.FnExactDepthOfList", spec := "fnExactDepthOfList", unfollowed := true, recurses := true, plainKeys := false, apart := false }
def FnExactDepthOfListSaid : Prop := fnExactDepthOfListRow.holds Try.pinned (OpenSpec.ofChange fnExactDepthOfListSpec)

/-- ITS FALSE NEIGHBOUR: 'it returns false'. Refute it at one input. -/
def fnExactDepthOfListWrong : ChangeSpec := { name := "fnExactDepthOfList", fn := fun _ => fun
  | [d1, d2] => { results := [.lit (.bool false)], args := [d1, d2] }
  | _ => none }
def FnExactDepthOfListWrongFalsely : Prop := fnExactDepthOfListRow.holds Try.pinned (OpenSpec.ofChange fnExactDepthOfListWrong)

/-- 'laws.FnExactNucleusMachine': WHATEVER THE INPUT: true; the input reads as it did. -/
def fnExactNucleusMachineSpec : ChangeSpec := { name := "fnExactNucleusMachine", fn := fun _ => fun
  | [d] => { results := [.lit (.bool true)], args := [d] }
  | _ => none }
def fnExactNucleusMachineRow : OpenClaim := { program := "ytliohokcjgcmhaa", sum := "fd89e65c09044d98f0d4e6ba5cc1040161a8f30bd5bcf28645f797b18d50373a", func := "loop.example/g01244/laws.FnExactNucleusMachine", spec := "fnExactNucleusMachine", unfollowed := true, recurses := true, plainKeys := false, apart := false }
def FnExactNucleusMachineSaid : Prop := fnExactNucleusMachineRow.holds Try.pinned (OpenSpec.ofChange fnExactNucleusMachineSpec)

/-- ITS FALSE NEIGHBOUR: 'it returns false'. Refute it at one input. -/
def fnExactNucleusMachineWrong : ChangeSpec := { name := "fnExactNucleusMachine", fn := fun _ => fun
  | [d] => { results := [.lit (.bool false)], args := [d] }
  | _ => none }
def FnExactNucleusMachineWrongFalsely : Prop := fnExactNucleusMachineRow.holds Try.pinned (OpenSpec.ofChange fnExactNucleusMachineWrong)

/-- 'laws.FnExactIsInList': WHATEVER THE INPUT: true; the input reads as it did. -/
def fnExactIsInListSpec : ChangeSpec := { name := "fnExactIsInList", fn := fun _ => fun
  | [d1, d2, d3] => { results := [.lit (.bool true)], args := [d1, d2, d3] }
  | _ => none }
def fnExactIsInListRow : OpenClaim := { program := "ytliohokcjgcmhaa", sum := "fd89e65c09044d98f0d4e6ba5cc1040161a8f30bd5bcf28645f797b18d50373a", func := "loop.example/g01244/laws.FnExactIsInList", spec := "fnExactIsInList", unfollowed := true, recurses := true, plainKeys := false, apart := false }
def FnExactIsInListSaid : Prop := fnExactIsInListRow.holds Try.pinned (OpenSpec.ofChange fnExactIsInListSpec)

/-- ITS FALSE NEIGHBOUR: 'it returns false'. Refute it at one input. -/
def fnExactIsInListWrong : ChangeSpec := { name := "fnExactIsInList", fn := fun _ => fun
  | [d1, d2, d3] => { results := [.lit (.bool false)], args := [d1, d2, d3] }
  | _ => none }
def FnExactIsInListWrongFalsely : Prop := fnExactIsInListRow.holds Try.pinned (OpenSpec.ofChange fnExactIsInListWrong)

/-- 'laws.FnExactGeneratorsOf': WHATEVER THE INPUT: true; the input reads as it did. -/
def fnExactGeneratorsOfSpec : ChangeSpec := { name := "fnExactGeneratorsOf", fn := fun _ => fun
  | [d] => { results := [.lit (.bool true)], args := [d] }
  | _ => none }
def fnExactGeneratorsOfRow : OpenClaim := { program := "ytliohokcjgcmhaa", sum := "fd89e65c09044d98f0d4e6ba5cc1040161a8f30bd5bcf28645f797b18d50373a", func := "loop.example/g01244/laws.FnExactGeneratorsOf", spec := "fnExactGeneratorsOf", unfollowed := true, recurses := true, plainKeys := false, apart := false }
def FnExactGeneratorsOfSaid : Prop := fnExactGeneratorsOfRow.holds Try.pinned (OpenSpec.ofChange fnExactGeneratorsOfSpec)

/-- ITS FALSE NEIGHBOUR: 'it returns false'. Refute it at one input. -/
def fnExactGeneratorsOfWrong : ChangeSpec := { name := "fnExactGeneratorsOf", fn := fun _ => fun
  | [d] => { results := [.lit (.bool false)], args := [d] }
  | _ => none }
def FnExactGeneratorsOfWrongFalsely : Prop := fnExactGeneratorsOfRow.holds Try.pinned (OpenSpec.ofChange fnExactGeneratorsOfWrong)

/-- 'laws.FnExactRelationsOf': WHATEVER THE INPUT: true; the input reads as it did. -/
def fnExactRelationsOfSpec : ChangeSpec := { name := "fnExactRelationsOf", fn := fun _ => fun
  | [d1, d2] => { results := [.lit (.bool true)], args := [d1, d2] }
  | _ => none }
def fnExactRelationsOfRow : OpenClaim := { program := "ytliohokcjgcmhaa", sum := "fd89e65c09044d98f0d4e6ba5cc1040161a8f30bd5bcf28645f797b18d50373a", func := "loop.example/g01244/laws.FnExactRelationsOf", spec := "fnExactRelationsOf", unfollowed := true, recurses := true, plainKeys := false, apart := false }
def FnExactRelationsOfSaid : Prop := fnExactRelationsOfRow.holds Try.pinned (OpenSpec.ofChange fnExactRelationsOfSpec)

/-- ITS FALSE NEIGHBOUR: 'it returns false'. Refute it at one input. -/
def fnExactRelationsOfWrong : ChangeSpec := { name := "fnExactRelationsOf", fn := fun _ => fun
  | [d1, d2] => { results := [.lit (.bool false)], args := [d1, d2] }
  | _ => none }
def FnExactRelationsOfWrongFalsely : Prop := fnExactRelationsOfRow.holds Try.pinned (OpenSpec.ofChange fnExactRelationsOfWrong)

/-- 'laws.FnExactIsAbelianGroup': WHATEVER THE INPUT: true; the input reads as it did. -/
def fnExactIsAbelianGroupSpec : ChangeSpec := { name := "fnExactIsAbelianGroup", fn := fun _ => fun
  | [d] => { results := [.lit (.bool true)], args := [d] }
  | _ => none }
def fnExactIsAbelianGroupRow : OpenClaim := { program := "ytliohokcjgcmhaa", sum := "fd89e65c09044d98f0d4e6ba5cc1040161a8f30bd5bcf28645f797b18d50373a", func := "loop.example/g01244/laws.FnExactIsAbelianGroup", spec := "fnExactIsAbelianGroup", unfollowed := true, recurses := true, plainKeys := false, apart := false }
def FnExactIsAbelianGroupSaid : Prop := fnExactIsAbelianGroupRow.holds Try.pinned (OpenSpec.ofChange fnExactIsAbelianGroupSpec)

/-- ITS FALSE NEIGHBOUR: 'it returns false'. Refute it at one input. -/
def fnExactIsAbelianGroupWrong : ChangeSpec := { name := "fnExactIsAbelianGroup", fn := fun _ => fun
  | [d] => { results := [.lit (.bool false)], args := [d] }
  | _ => none }
def FnExactIsAbelianGroupWrongFalsely : Prop := fnExactIsAbelianGroupRow.holds Try.pinned (OpenSpec.ofChange fnExactIsAbelianGroupWrong)

/- THE SECOND FORM. 'bulk': how many values and letters a reading holds, each counted each time it is reached (what is shared counts as often as it is met; a slice's spare places count too). A statement '..UptoSaid' is the law's where the arguments, and the package variables that the reading takes, are together of bulk at most 1048576: NARROWER than '..Said'. Prove '..Said' where nothing that the law and all that it calls make is longer than what came in: it says more and counts as full. Else prove '..UptoSaid'. A law counts once. -/
mutual
def uptoBulk {H : Type} : DataW H → Nat
  | .lit (.string bytes) => bytes.length + 1
  | .lit _ => 1
  | .nil => 1
  | .ptr d => uptoBulk d + 1
  | .slice elems spare => uptoBulkAll elems + uptoBulkAll spare + 1
  | .agg parts => uptoBulkAll parts + 1
  | .iface _ d => uptoBulk d + 1
  | .map entries => uptoBulkEntries entries + 1
  | .held _ => 1
def uptoBulkAll {H : Type} : List (DataW H) → Nat
  | [] => 0
  | d :: r => uptoBulk d + uptoBulkAll r
def uptoBulkEntries {H : Type} : List (Lit × DataW H) → Nat
  | [] => 0
  | x :: r => uptoBulkEntry x + uptoBulkEntries r
def uptoBulkEntry {H : Type} : Lit × DataW H → Nat
  | (.string bytes, d) => bytes.length + uptoBulk d + 1
  | (_, d) => uptoBulk d + 1
 end
def uptoSmall : (H : Type) → List (DataW H) → Bool := fun _ ds => decide (uptoBulkAll ds ≤ 1048576)
def OpenSpec.upto (s : _root_.Go.ChangeSpec) : _root_.Go.OpenSpec := { _root_.Go.OpenSpec.ofChange s with cond := some uptoSmall }

/-- 'laws.FnExactMachineOfWord', WHERE WHAT IT READS IS OF BULK AT MOST 1048576: true; the input reads as it did. -/
def fnExactMachineOfWordUptoRow : OpenClaim := { program := "ytliohokcjgcmhaa", sum := "fd89e65c09044d98f0d4e6ba5cc1040161a8f30bd5bcf28645f797b18d50373a", func := "loop.example/g01244/laws.FnExactMachineOfWord", spec := "fnExactMachineOfWord", unfollowed := true, recurses := true, plainKeys := false, apart := false, narrowed := true }
def FnExactMachineOfWordUptoSaid : Prop := fnExactMachineOfWordUptoRow.holds Try.pinned (OpenSpec.upto fnExactMachineOfWordSpec)

/-- 'laws.FnExactSectionsOfLevel', WHERE WHAT IT READS IS OF BULK AT MOST 1048576: true; the input reads as it did. -/
def fnExactSectionsOfLevelUptoRow : OpenClaim := { program := "ytliohokcjgcmhaa", sum := "fd89e65c09044d98f0d4e6ba5cc1040161a8f30bd5bcf28645f797b18d50373a", func := "loop.example/g01244/laws.FnExactSectionsOfLevel", spec := "fnExactSectionsOfLevel", unfollowed := true, recurses := true, plainKeys := false, apart := false, narrowed := true }
def FnExactSectionsOfLevelUptoSaid : Prop := fnExactSectionsOfLevelUptoRow.holds Try.pinned (OpenSpec.upto fnExactSectionsOfLevelSpec)

/-- 'laws.FnExactSectionLengths', WHERE WHAT IT READS IS OF BULK AT MOST 1048576: true; the input reads as it did. -/
def fnExactSectionLengthsUptoRow : OpenClaim := { program := "ytliohokcjgcmhaa", sum := "fd89e65c09044d98f0d4e6ba5cc1040161a8f30bd5bcf28645f797b18d50373a", func := "loop.example/g01244/laws.FnExactSectionLengths", spec := "fnExactSectionLengths", unfollowed := true, recurses := true, plainKeys := false, apart := false, narrowed := true }
def FnExactSectionLengthsUptoSaid : Prop := fnExactSectionLengthsUptoRow.holds Try.pinned (OpenSpec.upto fnExactSectionLengthsSpec)

/-- 'laws.FnExactLastingSections', WHERE WHAT IT READS IS OF BULK AT MOST 1048576: true; the input reads as it did. -/
def fnExactLastingSectionsUptoRow : OpenClaim := { program := "ytliohokcjgcmhaa", sum := "fd89e65c09044d98f0d4e6ba5cc1040161a8f30bd5bcf28645f797b18d50373a", func := "loop.example/g01244/laws.FnExactLastingSections", spec := "fnExactLastingSections", unfollowed := true, recurses := true, plainKeys := false, apart := false, narrowed := true }
def FnExactLastingSectionsUptoSaid : Prop := fnExactLastingSectionsUptoRow.holds Try.pinned (OpenSpec.upto fnExactLastingSectionsSpec)

/-- 'laws.FnExactNucleusOf', WHERE WHAT IT READS IS OF BULK AT MOST 1048576: true; the input reads as it did. -/
def fnExactNucleusOfUptoRow : OpenClaim := { program := "ytliohokcjgcmhaa", sum := "fd89e65c09044d98f0d4e6ba5cc1040161a8f30bd5bcf28645f797b18d50373a", func := "loop.example/g01244/laws.FnExactNucleusOf", spec := "fnExactNucleusOf", unfollowed := true, recurses := true, plainKeys := false, apart := false, narrowed := true }
def FnExactNucleusOfUptoSaid : Prop := fnExactNucleusOfUptoRow.holds Try.pinned (OpenSpec.upto fnExactNucleusOfSpec)

/-- 'laws.FnExactIsClosedList', WHERE WHAT IT READS IS OF BULK AT MOST 1048576: true; the input reads as it did. -/
def fnExactIsClosedListUptoRow : OpenClaim := { program := "ytliohokcjgcmhaa", sum := "fd89e65c09044d98f0d4e6ba5cc1040161a8f30bd5bcf28645f797b18d50373a", func := "loop.example/g01244/laws.FnExactIsClosedList", spec := "fnExactIsClosedList", unfollowed := true, recurses := true, plainKeys := false, apart := false, narrowed := true }
def FnExactIsClosedListUptoSaid : Prop := fnExactIsClosedListUptoRow.holds Try.pinned (OpenSpec.upto fnExactIsClosedListSpec)

/-- 'laws.FnExactDepthOfList', WHERE WHAT IT READS IS OF BULK AT MOST 1048576: true; the input reads as it did. -/
def fnExactDepthOfListUptoRow : OpenClaim := { program := "ytliohokcjgcmhaa", sum := "fd89e65c09044d98f0d4e6ba5cc1040161a8f30bd5bcf28645f797b18d50373a", func := "loop.example/g01244/laws.FnExactDepthOfList", spec := "fnExactDepthOfList", unfollowed := true, recurses := true, plainKeys := false, apart := false, narrowed := true }
def FnExactDepthOfListUptoSaid : Prop := fnExactDepthOfListUptoRow.holds Try.pinned (OpenSpec.upto fnExactDepthOfListSpec)

/-- 'laws.FnExactNucleusMachine', WHERE WHAT IT READS IS OF BULK AT MOST 1048576: true; the input reads as it did. -/
def fnExactNucleusMachineUptoRow : OpenClaim := { program := "ytliohokcjgcmhaa", sum := "fd89e65c09044d98f0d4e6ba5cc1040161a8f30bd5bcf28645f797b18d50373a", func := "loop.example/g01244/laws.FnExactNucleusMachine", spec := "fnExactNucleusMachine", unfollowed := true, recurses := true, plainKeys := false, apart := false, narrowed := true }
def FnExactNucleusMachineUptoSaid : Prop := fnExactNucleusMachineUptoRow.holds Try.pinned (OpenSpec.upto fnExactNucleusMachineSpec)

/-- 'laws.FnExactIsInList', WHERE WHAT IT READS IS OF BULK AT MOST 1048576: true; the input reads as it did. -/
def fnExactIsInListUptoRow : OpenClaim := { program := "ytliohokcjgcmhaa", sum := "fd89e65c09044d98f0d4e6ba5cc1040161a8f30bd5bcf28645f797b18d50373a", func := "loop.example/g01244/laws.FnExactIsInList", spec := "fnExactIsInList", unfollowed := true, recurses := true, plainKeys := false, apart := false, narrowed := true }
def FnExactIsInListUptoSaid : Prop := fnExactIsInListUptoRow.holds Try.pinned (OpenSpec.upto fnExactIsInListSpec)

/-- 'laws.FnExactGeneratorsOf', WHERE WHAT IT READS IS OF BULK AT MOST 1048576: true; the input reads as it did. -/
def fnExactGeneratorsOfUptoRow : OpenClaim := { program := "ytliohokcjgcmhaa", sum := "fd89e65c09044d98f0d4e6ba5cc1040161a8f30bd5bcf28645f797b18d50373a", func := "loop.example/g01244/laws.FnExactGeneratorsOf", spec := "fnExactGeneratorsOf", unfollowed := true, recurses := true, plainKeys := false, apart := false, narrowed := true }
def FnExactGeneratorsOfUptoSaid : Prop := fnExactGeneratorsOfUptoRow.holds Try.pinned (OpenSpec.upto fnExactGeneratorsOfSpec)

/-- 'laws.FnExactRelationsOf', WHERE WHAT IT READS IS OF BULK AT MOST 1048576: true; the input reads as it did. -/
def fnExactRelationsOfUptoRow : OpenClaim := { program := "ytliohokcjgcmhaa", sum := "fd89e65c09044d98f0d4e6ba5cc1040161a8f30bd5bcf28645f797b18d50373a", func := "loop.example/g01244/laws.FnExactRelationsOf", spec := "fnExactRelationsOf", unfollowed := true, recurses := true, plainKeys := false, apart := false, narrowed := true }
def FnExactRelationsOfUptoSaid : Prop := fnExactRelationsOfUptoRow.holds Try.pinned (OpenSpec.upto fnExactRelationsOfSpec)

/-- 'laws.FnExactIsAbelianGroup', WHERE WHAT IT READS IS OF BULK AT MOST 1048576: true; the input reads as it did. -/
def fnExactIsAbelianGroupUptoRow : OpenClaim := { program := "ytliohokcjgcmhaa", sum := "fd89e65c09044d98f0d4e6ba5cc1040161a8f30bd5bcf28645f797b18d50373a", func := "loop.example/g01244/laws.FnExactIsAbelianGroup", spec := "fnExactIsAbelianGroup", unfollowed := true, recurses := true, plainKeys := false, apart := false, narrowed := true }
def FnExactIsAbelianGroupUptoSaid : Prop := fnExactIsAbelianGroupUptoRow.holds Try.pinned (OpenSpec.upto fnExactIsAbelianGroupSpec)

end Rows
end Go.Proofs.Ytliohokcjgcmhaa
