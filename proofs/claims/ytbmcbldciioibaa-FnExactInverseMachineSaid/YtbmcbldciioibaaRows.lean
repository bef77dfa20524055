/-
  No cell of these rows narrows 'for every input' (looked for: loops, veiled, ifaces, maps, wideKeys, modest, calm, conditions, laid).
  DERIVED. THE GIVEN ROWS OF THIS SEAT. 14 by the template 'for every input the law returns true; each argument reads behind the call as it read before'; 0 by the template 'total and deterministic' (their statements: YtbmcbldciioibaaTotals.lean).
  GIVEN WITH THE SEED: the statements are not yours to turn. If you find one false, say at which input.
  Laid BY PROGRAM, IN A SANDBOX (cutbox-rows.mjs): the forced cells as the released guide's own fill.sh prints them over the translation 3a572e5193a1b9a4… (all of the seat's roots in one cut). By AI agents, Wed Nov 11 2026. No macro, syntax, notation, axiom, sorry.
-/
import Derived.Test.YtbmcbldciioibaaChecked
import GoSem.Claim
import GoSem.ClaimJoined
import GoSem.ClaimMapViews
import Derived.JoinedTies
import Derived.KernelRfl
namespace Go.Proofs.Ytbmcbldciioibaa
/- THE CELL 'sum', in the pinned program and in every row, IS THE sha256 OF THE DUMP (.gsa) THAT YtbmcbldciioibaaProg.lean LOADS. Nothing in Lean hashes anything: it is a label: what it is worth is what the hold of that sum in a sandbox is worth. -/
noncomputable def Try.pinned : Pinned := { name := "ytbmcbldciioibaa", sum := "3a572e5193a1b9a43803186fd4a2a646b369b7e294166921edeeeaa8ed6345e9", checked := Try.checked }
namespace Rows
def none {H : Type} : Left H := { results := [], args := [] }

/-- 'laws.FnActions': WHATEVER THE INPUT: true; the input reads as it did. -/
def fnActionsSpec : ChangeSpec := { name := "fnActions", fn := fun _ => fun
  | [d] => { results := [.lit (.bool true)], args := [d] }
  | _ => none }
def fnActionsRow : OpenClaim := { program := "ytbmcbldciioibaa", sum := "3a572e5193a1b9a43803186fd4a2a646b369b7e294166921edeeeaa8ed6345e9", func := "loop.example/g01244/laws.FnActions", spec := "fnActions", recurses := true, plainKeys := false, apart := false }
def FnActionsSaid : Prop := fnActionsRow.holds Try.pinned (OpenSpec.ofChange fnActionsSpec)

/-- ITS FALSE NEIGHBOUR: 'it returns false'. Refute it at one input. -/
def fnActionsWrong : ChangeSpec := { name := "fnActions", fn := fun _ => fun
  | [d] => { results := [.lit (.bool false)], args := [d] }
  | _ => none }
def FnActionsWrongFalsely : Prop := fnActionsRow.holds Try.pinned (OpenSpec.ofChange fnActionsWrong)

/-- 'laws.FnMinimal': WHATEVER THE INPUT: true; the input reads as it did. -/
def fnMinimalSpec : ChangeSpec := { name := "fnMinimal", fn := fun _ => fun
  | [d] => { results := [.lit (.bool true)], args := [d] }
  | _ => none }
def fnMinimalRow : OpenClaim := { program := "ytbmcbldciioibaa", sum := "3a572e5193a1b9a43803186fd4a2a646b369b7e294166921edeeeaa8ed6345e9", func := "loop.example/g01244/laws.FnMinimal", spec := "fnMinimal", plainKeys := false, apart := false }
def FnMinimalSaid : Prop := fnMinimalRow.holds Try.pinned (OpenSpec.ofChange fnMinimalSpec)

/-- ITS FALSE NEIGHBOUR: 'it returns false'. Refute it at one input. -/
def fnMinimalWrong : ChangeSpec := { name := "fnMinimal", fn := fun _ => fun
  | [d] => { results := [.lit (.bool false)], args := [d] }
  | _ => none }
def FnMinimalWrongFalsely : Prop := fnMinimalRow.holds Try.pinned (OpenSpec.ofChange fnMinimalWrong)

/-- 'laws.FnExactIsMachine': WHATEVER THE INPUT: true; the input reads as it did. -/
def fnExactIsMachineSpec : ChangeSpec := { name := "fnExactIsMachine", fn := fun _ => fun
  | [d] => { results := [.lit (.bool true)], args := [d] }
  | _ => none }
def fnExactIsMachineRow : OpenClaim := { program := "ytbmcbldciioibaa", sum := "3a572e5193a1b9a43803186fd4a2a646b369b7e294166921edeeeaa8ed6345e9", func := "loop.example/g01244/laws.FnExactIsMachine", spec := "fnExactIsMachine", plainKeys := false, apart := false }
def FnExactIsMachineSaid : Prop := fnExactIsMachineRow.holds Try.pinned (OpenSpec.ofChange fnExactIsMachineSpec)

/-- ITS FALSE NEIGHBOUR: 'it returns false'. Refute it at one input. -/
def fnExactIsMachineWrong : ChangeSpec := { name := "fnExactIsMachine", fn := fun _ => fun
  | [d] => { results := [.lit (.bool false)], args := [d] }
  | _ => none }
def FnExactIsMachineWrongFalsely : Prop := fnExactIsMachineRow.holds Try.pinned (OpenSpec.ofChange fnExactIsMachineWrong)

/-- 'laws.FnExactMachineText': WHATEVER THE INPUT: true; the input reads as it did. -/
def fnExactMachineTextSpec : ChangeSpec := { name := "fnExactMachineText", fn := fun _ => fun
  | [d] => { results := [.lit (.bool true)], args := [d] }
  | _ => none }
def fnExactMachineTextRow : OpenClaim := { program := "ytbmcbldciioibaa", sum := "3a572e5193a1b9a43803186fd4a2a646b369b7e294166921edeeeaa8ed6345e9", func := "loop.example/g01244/laws.FnExactMachineText", spec := "fnExactMachineText", recurses := true, plainKeys := false, apart := false }
def FnExactMachineTextSaid : Prop := fnExactMachineTextRow.holds Try.pinned (OpenSpec.ofChange fnExactMachineTextSpec)

/-- ITS FALSE NEIGHBOUR: 'it returns false'. Refute it at one input. -/
def fnExactMachineTextWrong : ChangeSpec := { name := "fnExactMachineText", fn := fun _ => fun
  | [d] => { results := [.lit (.bool false)], args := [d] }
  | _ => none }
def FnExactMachineTextWrongFalsely : Prop := fnExactMachineTextRow.holds Try.pinned (OpenSpec.ofChange fnExactMachineTextWrong)

/-- 'laws.FnExactActOnWord': WHATEVER THE INPUT: true; the input reads as it did. -/
def fnExactActOnWordSpec : ChangeSpec := { name := "fnExactActOnWord", fn := fun _ => fun
  | [d1, d2, d3] => { results := [.lit (.bool true)], args := [d1, d2, d3] }
  | _ => none }
def fnExactActOnWordRow : OpenClaim := { program := "ytbmcbldciioibaa", sum := "3a572e5193a1b9a43803186fd4a2a646b369b7e294166921edeeeaa8ed6345e9", func := "loop.example/g01244/laws.FnExactActOnWord", spec := "fnExactActOnWord", plainKeys := false, apart := false }
def FnExactActOnWordSaid : Prop := fnExactActOnWordRow.holds Try.pinned (OpenSpec.ofChange fnExactActOnWordSpec)

/-- ITS FALSE NEIGHBOUR: 'it returns false'. Refute it at one input. -/
def fnExactActOnWordWrong : ChangeSpec := { name := "fnExactActOnWord", fn := fun _ => fun
  | [d1, d2, d3] => { results := [.lit (.bool false)], args := [d1, d2, d3] }
  | _ => none }
def FnExactActOnWordWrongFalsely : Prop := fnExactActOnWordRow.holds Try.pinned (OpenSpec.ofChange fnExactActOnWordWrong)

/-- 'laws.FnExactSectionAt': WHATEVER THE INPUT: true; the input reads as it did. -/
def fnExactSectionAtSpec : ChangeSpec := { name := "fnExactSectionAt", fn := fun _ => fun
  | [d1, d2, d3] => { results := [.lit (.bool true)], args := [d1, d2, d3] }
  | _ => none }
def fnExactSectionAtRow : OpenClaim := { program := "ytbmcbldciioibaa", sum := "3a572e5193a1b9a43803186fd4a2a646b369b7e294166921edeeeaa8ed6345e9", func := "loop.example/g01244/laws.FnExactSectionAt", spec := "fnExactSectionAt", plainKeys := false, apart := false }
def FnExactSectionAtSaid : Prop := fnExactSectionAtRow.holds Try.pinned (OpenSpec.ofChange fnExactSectionAtSpec)

/-- ITS FALSE NEIGHBOUR: 'it returns false'. Refute it at one input. -/
def fnExactSectionAtWrong : ChangeSpec := { name := "fnExactSectionAt", fn := fun _ => fun
  | [d1, d2, d3] => { results := [.lit (.bool false)], args := [d1, d2, d3] }
  | _ => none }
def FnExactSectionAtWrongFalsely : Prop := fnExactSectionAtRow.holds Try.pinned (OpenSpec.ofChange fnExactSectionAtWrong)

/-- 'laws.FnExactInverseMachine': WHATEVER THE INPUT: true; the input reads as it did. -/
def fnExactInverseMachineSpec : ChangeSpec := { name := "fnExactInverseMachine", fn := fun _ => fun
  | [d] => { results := [.lit (.bool true)], args := [d] }
  | _ => none }
def fnExactInverseMachineRow : OpenClaim := { program := "ytbmcbldciioibaa", sum := "3a572e5193a1b9a43803186fd4a2a646b369b7e294166921edeeeaa8ed6345e9", func := "loop.example/g01244/laws.FnExactInverseMachine", spec := "fnExactInverseMachine", plainKeys := false, apart := false }
def FnExactInverseMachineSaid : Prop := fnExactInverseMachineRow.holds Try.pinned (OpenSpec.ofChange fnExactInverseMachineSpec)

/-- ITS FALSE NEIGHBOUR: 'it returns false'. Refute it at one input. -/
def fnExactInverseMachineWrong : ChangeSpec := { name := "fnExactInverseMachine", fn := fun _ => fun
  | [d] => { results := [.lit (.bool false)], args := [d] }
  | _ => none }
def FnExactInverseMachineWrongFalsely : Prop := fnExactInverseMachineRow.holds Try.pinned (OpenSpec.ofChange fnExactInverseMachineWrong)

/-- 'laws.FnExactAreEqualStates': WHATEVER THE INPUT: true; the input reads as it did. -/
def fnExactAreEqualStatesSpec : ChangeSpec := { name := "fnExactAreEqualStates", fn := fun _ => fun
  | [d1, d2, d3] => { results := [.lit (.bool true)], args := [d1, d2, d3] }
  | _ => none }
def fnExactAreEqualStatesRow : OpenClaim := { program := "ytbmcbldciioibaa", sum := "3a572e5193a1b9a43803186fd4a2a646b369b7e294166921edeeeaa8ed6345e9", func := "loop.example/g01244/laws.FnExactAreEqualStates", spec := "fnExactAreEqualStates", plainKeys := false, apart := false }
def FnExactAreEqualStatesSaid : Prop := fnExactAreEqualStatesRow.holds Try.pinned (OpenSpec.ofChange fnExactAreEqualStatesSpec)

/-- ITS FALSE NEIGHBOUR: 'it returns false'. Refute it at one input. -/
def fnExactAreEqualStatesWrong : ChangeSpec := { name := "fnExactAreEqualStates", fn := fun _ => fun
  | [d1, d2, d3] => { results := [.lit (.bool false)], args := [d1, d2, d3] }
  | _ => none }
def FnExactAreEqualStatesWrongFalsely : Prop := fnExactAreEqualStatesRow.holds Try.pinned (OpenSpec.ofChange fnExactAreEqualStatesWrong)

/-- 'laws.FnExactTrivialStates': WHATEVER THE INPUT: true; the input reads as it did. -/
def fnExactTrivialStatesSpec : ChangeSpec := { name := "fnExactTrivialStates", fn := fun _ => fun
  | [d] => { results := [.lit (.bool true)], args := [d] }
  | _ => none }
def fnExactTrivialStatesRow : OpenClaim := { program := "ytbmcbldciioibaa", sum := "3a572e5193a1b9a43803186fd4a2a646b369b7e294166921edeeeaa8ed6345e9", func := "loop.example/g01244/laws.FnExactTrivialStates", spec := "fnExactTrivialStates", plainKeys := false, apart := false }
def FnExactTrivialStatesSaid : Prop := fnExactTrivialStatesRow.holds Try.pinned (OpenSpec.ofChange fnExactTrivialStatesSpec)

/-- ITS FALSE NEIGHBOUR: 'it returns false'. Refute it at one input. -/
def fnExactTrivialStatesWrong : ChangeSpec := { name := "fnExactTrivialStates", fn := fun _ => fun
  | [d] => { results := [.lit (.bool false)], args := [d] }
  | _ => none }
def FnExactTrivialStatesWrongFalsely : Prop := fnExactTrivialStatesRow.holds Try.pinned (OpenSpec.ofChange fnExactTrivialStatesWrong)

/-- 'laws.FnExactMinimalMachine': WHATEVER THE INPUT: true; the input reads as it did. -/
def fnExactMinimalMachineSpec : ChangeSpec := { name := "fnExactMinimalMachine", fn := fun _ => fun
  | [d] => { results := [.lit (.bool true)], args := [d] }
  | _ => none }
def fnExactMinimalMachineRow : OpenClaim := { program := "ytbmcbldciioibaa", sum := "3a572e5193a1b9a43803186fd4a2a646b369b7e294166921edeeeaa8ed6345e9", func := "loop.example/g01244/laws.FnExactMinimalMachine", spec := "fnExactMinimalMachine", plainKeys := false, apart := false }
def FnExactMinimalMachineSaid : Prop := fnExactMinimalMachineRow.holds Try.pinned (OpenSpec.ofChange fnExactMinimalMachineSpec)

/-- ITS FALSE NEIGHBOUR: 'it returns false'. Refute it at one input. -/
def fnExactMinimalMachineWrong : ChangeSpec := { name := "fnExactMinimalMachine", fn := fun _ => fun
  | [d] => { results := [.lit (.bool false)], args := [d] }
  | _ => none }
def FnExactMinimalMachineWrongFalsely : Prop := fnExactMinimalMachineRow.holds Try.pinned (OpenSpec.ofChange fnExactMinimalMachineWrong)

/-- 'laws.FnExactLevelPermutation': WHATEVER THE INPUT: true; the input reads as it did. -/
def fnExactLevelPermutationSpec : ChangeSpec := { name := "fnExactLevelPermutation", fn := fun _ => fun
  | [d1, d2, d3] => { results := [.lit (.bool true)], args := [d1, d2, d3] }
  | _ => none }
def fnExactLevelPermutationRow : OpenClaim := { program := "ytbmcbldciioibaa", sum := "3a572e5193a1b9a43803186fd4a2a646b369b7e294166921edeeeaa8ed6345e9", func := "loop.example/g01244/laws.FnExactLevelPermutation", spec := "fnExactLevelPermutation", recurses := true, plainKeys := false, apart := false }
def FnExactLevelPermutationSaid : Prop := fnExactLevelPermutationRow.holds Try.pinned (OpenSpec.ofChange fnExactLevelPermutationSpec)

/-- ITS FALSE NEIGHBOUR: 'it returns false'. Refute it at one input. -/
def fnExactLevelPermutationWrong : ChangeSpec := { name := "fnExactLevelPermutation", fn := fun _ => fun
  | [d1, d2, d3] => { results := [.lit (.bool false)], args := [d1, d2, d3] }
  | _ => none }
def FnExactLevelPermutationWrongFalsely : Prop := fnExactLevelPermutationRow.holds Try.pinned (OpenSpec.ofChange fnExactLevelPermutationWrong)

/-- 'laws.FnExactWordOfNumber': WHATEVER THE INPUT: true; the input reads as it did. -/
def fnExactWordOfNumberSpec : ChangeSpec := { name := "fnExactWordOfNumber", fn := fun _ => fun
  | [d1, d2, d3] => { results := [.lit (.bool true)], args := [d1, d2, d3] }
  | _ => none }
def fnExactWordOfNumberRow : OpenClaim := { program := "ytbmcbldciioibaa", sum := "3a572e5193a1b9a43803186fd4a2a646b369b7e294166921edeeeaa8ed6345e9", func := "loop.example/g01244/laws.FnExactWordOfNumber", spec := "fnExactWordOfNumber", recurses := true, plainKeys := false, apart := false }
def FnExactWordOfNumberSaid : Prop := fnExactWordOfNumberRow.holds Try.pinned (OpenSpec.ofChange fnExactWordOfNumberSpec)

/-- ITS FALSE NEIGHBOUR: 'it returns false'. Refute it at one input. -/
def fnExactWordOfNumberWrong : ChangeSpec := { name := "fnExactWordOfNumber", fn := fun _ => fun
  | [d1, d2, d3] => { results := [.lit (.bool false)], args := [d1, d2, d3] }
  | _ => none }
def FnExactWordOfNumberWrongFalsely : Prop := fnExactWordOfNumberRow.holds Try.pinned (OpenSpec.ofChange fnExactWordOfNumberWrong)

/-- 'laws.FnExactNumberOfWord': WHATEVER THE INPUT: true; the input reads as it did. -/
def fnExactNumberOfWordSpec : ChangeSpec := { name := "fnExactNumberOfWord", fn := fun _ => fun
  | [d1, d2] => { results := [.lit (.bool true)], args := [d1, d2] }
  | _ => none }
def fnExactNumberOfWordRow : OpenClaim := { program := "ytbmcbldciioibaa", sum := "3a572e5193a1b9a43803186fd4a2a646b369b7e294166921edeeeaa8ed6345e9", func := "loop.example/g01244/laws.FnExactNumberOfWord", spec := "fnExactNumberOfWord", plainKeys := false, apart := false }
def FnExactNumberOfWordSaid : Prop := fnExactNumberOfWordRow.holds Try.pinned (OpenSpec.ofChange fnExactNumberOfWordSpec)

/-- ITS FALSE NEIGHBOUR: 'it returns false'. Refute it at one input. -/
def fnExactNumberOfWordWrong : ChangeSpec := { name := "fnExactNumberOfWord", fn := fun _ => fun
  | [d1, d2] => { results := [.lit (.bool false)], args := [d1, d2] }
  | _ => none }
def FnExactNumberOfWordWrongFalsely : Prop := fnExactNumberOfWordRow.holds Try.pinned (OpenSpec.ofChange fnExactNumberOfWordWrong)

/-- 'laws.FnExactOrbitOfWord': WHATEVER THE INPUT: true; the input reads as it did. -/
def fnExactOrbitOfWordSpec : ChangeSpec := { name := "fnExactOrbitOfWord", fn := fun _ => fun
  | [d1, d2, d3] => { results := [.lit (.bool true)], args := [d1, d2, d3] }
  | _ => none }
def fnExactOrbitOfWordRow : OpenClaim := { program := "ytbmcbldciioibaa", sum := "3a572e5193a1b9a43803186fd4a2a646b369b7e294166921edeeeaa8ed6345e9", func := "loop.example/g01244/laws.FnExactOrbitOfWord", spec := "fnExactOrbitOfWord", plainKeys := false, apart := false }
def FnExactOrbitOfWordSaid : Prop := fnExactOrbitOfWordRow.holds Try.pinned (OpenSpec.ofChange fnExactOrbitOfWordSpec)

/-- ITS FALSE NEIGHBOUR: 'it returns false'. Refute it at one input. -/
def fnExactOrbitOfWordWrong : ChangeSpec := { name := "fnExactOrbitOfWord", fn := fun _ => fun
  | [d1, d2, d3] => { results := [.lit (.bool false)], args := [d1, d2, d3] }
  | _ => none }
def FnExactOrbitOfWordWrongFalsely : Prop := fnExactOrbitOfWordRow.holds Try.pinned (OpenSpec.ofChange fnExactOrbitOfWordWrong)

/- THE SECOND FORM. 'bulk': how many values and letters a reading holds, each counted each time it is reached (what is shared counts as often as it is met; a slice's spare places count too). A statement '..UptoSaid' is the law's where the arguments, and the package variables that the reading takes, are together of bulk at most 1048576: NARROWER than '..Said'. Prove '..Said' where nothing that the law and all that it calls make is longer than what came in: it says more and counts as full. Else prove '..UptoSaid'. A law counts once. -/
mutual
def uptoBulk {H : Type} : DataW H → Nat
  | .lit (.string bytes) => bytes.length + 1
  | .lit _ => 1
  | .nil => 1
  | .ptr d => uptoBulk d + 1
  | .slice elems spare => uptoBulkAll elems + uptoBulkAll spare + 1
  | .agg parts => uptoBulkAll parts + 1
  | .iface _ d => uptoBulk d + 1
  | .map entries => uptoBulkEntries entries + 1
  | .held _ => 1
def uptoBulkAll {H : Type} : List (DataW H) → Nat
  | [] => 0
  | d :: r => uptoBulk d + uptoBulkAll r
def uptoBulkEntries {H : Type} : List (Lit × DataW H) → Nat
  | [] => 0
  | x :: r => uptoBulkEntry x + uptoBulkEntries r
def uptoBulkEntry {H : Type} : Lit × DataW H → Nat
  | (.string bytes, d) => bytes.length + uptoBulk d + 1
  | (_, d) => uptoBulk d + 1
 end
def uptoSmall : (H : Type) → List (DataW H) → Bool := fun _ ds => decide (uptoBulkAll ds ≤ 1048576)
def OpenSpec.upto (s : _root_.Go.ChangeSpec) : _root_.Go.OpenSpec := { _root_.Go.OpenSpec.ofChange s with cond := some uptoSmall }

/-- 'laws.FnActions', WHERE WHAT IT READS IS OF BULK AT MOST 1048576: true; the input reads as it did. -/
def fnActionsUptoRow : OpenClaim := { program := "ytbmcbldciioibaa", sum := "3a572e5193a1b9a43803186fd4a2a646b369b7e294166921edeeeaa8ed6345e9", func := "loop.example/g01244/laws.FnActions", spec := "fnActions", recurses := true, plainKeys := false, apart := false, narrowed := true }
def FnActionsUptoSaid : Prop := fnActionsUptoRow.holds Try.pinned (OpenSpec.upto fnActionsSpec)

/-- 'laws.FnMinimal', WHERE WHAT IT READS IS OF BULK AT MOST 1048576: true; the input reads as it did. -/
def fnMinimalUptoRow : OpenClaim := { program := "ytbmcbldciioibaa", sum := "3a572e5193a1b9a43803186fd4a2a646b369b7e294166921edeeeaa8ed6345e9", func := "loop.example/g01244/laws.FnMinimal", spec := "fnMinimal", plainKeys := false, apart := false, narrowed := true }
def FnMinimalUptoSaid : Prop := fnMinimalUptoRow.holds Try.pinned (OpenSpec.upto fnMinimalSpec)

/-- 'laws.FnExactIsMachine', WHERE WHAT IT READS IS OF BULK AT MOST 1048576: true; the input reads as it did. -/
def fnExactIsMachineUptoRow : OpenClaim := { program := "ytbmcbldciioibaa", sum := "3a572e5193a1b9a43803186fd4a2a646b369b7e294166921edeeeaa8ed6345e9", func := "loop.example/g01244/laws.FnExactIsMachine", spec := "fnExactIsMachine", plainKeys := false, apart := false, narrowed := true }
def FnExactIsMachineUptoSaid : Prop := fnExactIsMachineUptoRow.holds Try.pinned (OpenSpec.upto fnExactIsMachineSpec)

/-- 'laws.FnExactMachineText', WHERE WHAT IT READS IS OF BULK AT MOST 1048576: true; the input reads as it did. -/
def fnExactMachineTextUptoRow : OpenClaim := { program := "ytbmcbldciioibaa", sum := "3a572e5193a1b9a43803186fd4a2a646b369b7e294166921edeeeaa8ed6345e9", func := "loop.example/g01244/laws.FnExactMachineText", spec := "fnExactMachineText", recurses := true, plainKeys := false, apart := false, narrowed := true }
def FnExactMachineTextUptoSaid : Prop := fnExactMachineTextUptoRow.holds Try.pinned (OpenSpec.upto fnExactMachineTextSpec)

/-- 'laws.FnExactActOnWord', WHERE WHAT IT READS IS OF BULK AT MOST 1048576: true; the input reads as it did. -/
def fnExactActOnWordUptoRow : OpenClaim := { program := "ytbmcbldciioibaa", sum := "3a572e5193a1b9a43803186fd4a2a646b369b7e294166921edeeeaa8ed6345e9", func := "loop.example/g01244/laws.FnExactActOnWord", spec := "fnExactActOnWord", plainKeys := false, apart := false, narrowed := true }
def FnExactActOnWordUptoSaid : Prop := fnExactActOnWordUptoRow.holds Try.pinned (OpenSpec.upto fnExactActOnWordSpec)

/-- 'laws.FnExactSectionAt', WHERE WHAT IT READS IS OF BULK AT MOST 1048576: true; the input reads as it did. -/
def fnExactSectionAtUptoRow : OpenClaim := { program := "ytbmcbldciioibaa", sum := "3a572e5193a1b9a43803186fd4a2a646b369b7e294166921edeeeaa8ed6345e9", func := "loop.example/g01244/laws.FnExactSectionAt", spec := "fnExactSectionAt", plainKeys := false, apart := false, narrowed := true }
def FnExactSectionAtUptoSaid : Prop := fnExactSectionAtUptoRow.holds Try.pinned (OpenSpec.upto fnExactSectionAtSpec)

/-- 'laws.FnExactInverseMachine', WHERE WHAT IT READS IS OF BULK AT MOST 1048576: true; the input reads as it did. -/
def fnExactInverseMachineUptoRow : OpenClaim := { program := "ytbmcbldciioibaa", sum := "3a572e5193a1b9a43803186fd4a2a646b369b7e294166921edeeeaa8ed6345e9", func := "loop.example/g01244/laws.FnExactInverseMachine", spec := "fnExactInverseMachine", plainKeys := false, apart := false, narrowed := true }
def FnExactInverseMachineUptoSaid : Prop := fnExactInverseMachineUptoRow.holds Try.pinned (OpenSpec.upto fnExactInverseMachineSpec)

/-- 'laws.FnExactAreEqualStates', WHERE WHAT IT READS IS OF BULK AT MOST 1048576: true; the input reads as it did. -/
def fnExactAreEqualStatesUptoRow : OpenClaim := { program := "ytbmcbldciioibaa", sum := "3a572e5193a1b9a43803186fd4a2a646b369b7e294166921edeeeaa8ed6345e9", func := "loop.example/g01244/laws.FnExactAreEqualStates", spec := "fnExactAreEqualStates", plainKeys := false, apart := false, narrowed := true }
def FnExactAreEqualStatesUptoSaid : Prop := fnExactAreEqualStatesUptoRow.holds Try.pinned (OpenSpec.upto fnExactAreEqualStatesSpec)

/-- 'laws.FnExactTrivialStates', WHERE WHAT IT READS IS OF BULK AT MOST 1048576: true; the input reads as it did. -/
def fnExactTrivialStatesUptoRow : OpenClaim := { program := "ytbmcbldciioibaa", sum := "3a572e5193a1b9a43803186fd4a2a646b369b7e294166921edeeeaa8ed6345e9", func := "loop.example/g01244/laws.FnExactTrivialStates", spec := "fnExactTrivialStates", plainKeys := false, apart := false, narrowed := true }
def FnExactTrivialStatesUptoSaid : Prop := fnExactTrivialStatesUptoRow.holds Try.pinned (OpenSpec.upto fnExactTrivialStatesSpec)

/-- 'laws.FnExactMinimalMachine', WHERE WHAT IT READS IS OF BULK AT MOST 1048576: true; the input reads as it did. -/
def fnExactMinimalMachineUptoRow : OpenClaim := { program := "ytbmcbldciioibaa", sum := "3a572e5193a1b9a43803186fd4a2a646b369b7e294166921edeeeaa8ed6345e9", func := "loop.example/g01244/laws.FnExactMinimalMachine", spec := "fnExactMinimalMachine", plainKeys := false, apart := false, narrowed := true }
def FnExactMinimalMachineUptoSaid : Prop := fnExactMinimalMachineUptoRow.holds Try.pinned (OpenSpec.upto fnExactMinimalMachineSpec)

/-- 'laws.FnExactLevelPermutation', WHERE WHAT IT READS IS OF BULK AT MOST 1048576: true; the input reads as it did. -/
def fnExactLevelPermutationUptoRow : OpenClaim := { program := "ytbmcbldciioibaa", sum := "3a572e5193a1b9a43803186fd4a2a646b369b7e294166921edeeeaa8ed6345e9", func := "loop.example/g01244/laws.FnExactLevelPermutation", spec := "fnExactLevelPermutation", recurses := true, plainKeys := false, apart := false, narrowed := true }
def FnExactLevelPermutationUptoSaid : Prop := fnExactLevelPermutationUptoRow.holds Try.pinned (OpenSpec.upto fnExactLevelPermutationSpec)

/-- 'laws.FnExactWordOfNumber', WHERE WHAT IT READS IS OF BULK AT MOST 1048576: true; the input reads as it did. -/
def fnExactWordOfNumberUptoRow : OpenClaim := { program := "ytbmcbldciioibaa", sum := "3a572e5193a1b9a43803186fd4a2a646b369b7e294166921edeeeaa8ed6345e9", func := "loop.example/g01244/laws.FnExactWordOfNumber", spec := "fnExactWordOfNumber", recurses := true, plainKeys := false, apart := false, narrowed := true }
def FnExactWordOfNumberUptoSaid : Prop := fnExactWordOfNumberUptoRow.holds Try.pinned (OpenSpec.upto fnExactWordOfNumberSpec)

/-- 'laws.FnExactNumberOfWord', WHERE WHAT IT READS IS OF BULK AT MOST 1048576: true; the input reads as it did. -/
def fnExactNumberOfWordUptoRow : OpenClaim := { program := "ytbmcbldciioibaa", sum := "3a572e5193a1b9a43803186fd4a2a646b369b7e294166921edeeeaa8ed6345e9", func := "loop.example/g01244/laws.FnExactNumberOfWord", spec := "fnExactNumberOfWord", plainKeys := false, apart := false, narrowed := true }
def FnExactNumberOfWordUptoSaid : Prop := fnExactNumberOfWordUptoRow.holds Try.pinned (OpenSpec.upto fnExactNumberOfWordSpec)

/-- 'laws.FnExactOrbitOfWord', WHERE WHAT IT READS IS OF BULK AT MOST 1048576: true; the input reads as it did. -/
def fnExactOrbitOfWordUptoRow : OpenClaim := { program := "ytbmcbldciioibaa", sum := "3a572e5193a1b9a43803186fd4a2a646b369b7e294166921edeeeaa8ed6345e9", func := "loop.example/g01244/laws.FnExactOrbitOfWord", spec := "fnExactOrbitOfWord", plainKeys := false, apart := false, narrowed := true }
def FnExactOrbitOfWordUptoSaid : Prop := fnExactOrbitOfWordUptoRow.holds Try.pinned (OpenSpec.upto fnExactOrbitOfWordSpec)

end Rows
end Go.Proofs.Ytbmcbldciioibaa
