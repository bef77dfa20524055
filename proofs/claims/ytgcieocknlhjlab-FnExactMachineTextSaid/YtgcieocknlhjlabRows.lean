/-
  No cell of these rows narrows 'for every input' (looked for: loops, veiled, ifaces, maps, wideKeys, modest, calm, conditions, laid).
  DERIVED. THE GIVEN ROWS OF THIS SEAT. 5 by the template 'for every input the law returns true; each argument reads behind the call as it read before'; 0 by the template 'total and deterministic' (their statements: YtgcieocknlhjlabTotals.lean).
  GIVEN WITH THE SEED: the statements are not yours to turn. If you find one false, say at which input.
  Laid BY PROGRAM, IN A SANDBOX (cutbox-rows.mjs): the forced cells as the released guide's own fill.sh prints them over the translation 7a261ab38ed31f40… (all of the seat's roots in one cut). By AI agents, Wed Nov 11 2026. No macro, syntax, notation, axiom, sorry.
-/
import Derived.Test.YtgcieocknlhjlabChecked
import GoSem.Claim
import GoSem.ClaimJoined
import GoSem.ClaimMapViews
import Derived.JoinedTies
import Derived.KernelRfl
namespace Go.Proofs.Ytgcieocknlhjlab
/- THE CELL 'sum', in the pinned program and in every row, IS THE sha256 OF THE DUMP (.gsa) THAT YtgcieocknlhjlabProg.lean LOADS. Nothing in Lean hashes anything: it is a label: what it is worth is what the hold of that sum in a sandbox is worth. -/
noncomputable def Try.pinned : Pinned := { name := "ytgcieocknlhjlab", sum := "7a261ab38ed31f4057c6849bc61aed50bf5a13a1fb591cd92d192ca5f6832fad", checked := Try.checked }
namespace Rows
def none {H : Type} : Left H := { results := [], args := [] }

/-- 'laws.FnExactMachineText': WHATEVER THE INPUT: true; the input reads as it did. -/
def fnExactMachineTextSpec : ChangeSpec := { name := "fnExactMachineText", fn := fun _ => fun
  | [d] => { results := [.lit (.bool true)], args := [d] }
  | _ => none }
def fnExactMachineTextRow : OpenClaim := { program := "ytgcieocknlhjlab", sum := "7a261ab38ed31f4057c6849bc61aed50bf5a13a1fb591cd92d192ca5f6832fad", func := "loop.example/g01244/laws.FnExactMachineText", spec := "fnExactMachineText", recurses := true, plainKeys := false, apart := false }
def FnExactMachineTextSaid : Prop := fnExactMachineTextRow.holds Try.pinned (OpenSpec.ofChange fnExactMachineTextSpec)

/-- ITS FALSE NEIGHBOUR: 'it returns false'. Refute it at one input. -/
def fnExactMachineTextWrong : ChangeSpec := { name := "fnExactMachineText", fn := fun _ => fun
  | [d] => { results := [.lit (.bool false)], args := [d] }
  | _ => none }
def FnExactMachineTextWrongFalsely : Prop := fnExactMachineTextRow.holds Try.pinned (OpenSpec.ofChange fnExactMachineTextWrong)

/-- 'laws.FnExactAreEqualStates': WHATEVER THE INPUT: true; the input reads as it did. -/
def fnExactAreEqualStatesSpec : ChangeSpec := { name := "fnExactAreEqualStates", fn := fun _ => fun
  | [d1, d2, d3] => { results := [.lit (.bool true)], args := [d1, d2, d3] }
  | _ => none }
def fnExactAreEqualStatesRow : OpenClaim := { program := "ytgcieocknlhjlab", sum := "7a261ab38ed31f4057c6849bc61aed50bf5a13a1fb591cd92d192ca5f6832fad", func := "loop.example/g01244/laws.FnExactAreEqualStates", spec := "fnExactAreEqualStates", plainKeys := false, apart := false }
def FnExactAreEqualStatesSaid : Prop := fnExactAreEqualStatesRow.holds Try.pinned (OpenSpec.ofChange fnExactAreEqualStatesSpec)

/-- ITS FALSE NEIGHBOUR: 'it returns false'. Refute it at one input. -/
def fnExactAreEqualStatesWrong : ChangeSpec := { name := "fnExactAreEqualStates", fn := fun _ => fun
  | [d1, d2, d3] => { results := [.lit (.bool false)], args := [d1, d2, d3] }
  | _ => none }
def FnExactAreEqualStatesWrongFalsely : Prop := fnExactAreEqualStatesRow.holds Try.pinned (OpenSpec.ofChange fnExactAreEqualStatesWrong)

/-- 'laws.FnExactTrivialStates': WHATEVER THE INPUT: true; the input reads as it did. -/
def fnExactTrivialStatesSpec : ChangeSpec := { name := "fnExactTrivialStates", fn := fun _ => fun
  | [d] => { results := [.lit (.bool true)], args := [d] }
  | _ => none }
def fnExactTrivialStatesRow : OpenClaim := { program := "ytgcieocknlhjlab", sum := "7a261ab38ed31f4057c6849bc61aed50bf5a13a1fb591cd92d192ca5f6832fad", func := "loop.example/g01244/laws.FnExactTrivialStates", spec := "fnExactTrivialStates", plainKeys := false, apart := false }
def FnExactTrivialStatesSaid : Prop := fnExactTrivialStatesRow.holds Try.pinned (OpenSpec.ofChange fnExactTrivialStatesSpec)

/-- ITS FALSE NEIGHBOUR: 'it returns false'. Refute it at one input. -/
def fnExactTrivialStatesWrong : ChangeSpec := { name := "fnExactTrivialStates", fn := fun _ => fun
  | [d] => { results := [.lit (.bool false)], args := [d] }
  | _ => none }
def FnExactTrivialStatesWrongFalsely : Prop := fnExactTrivialStatesRow.holds Try.pinned (OpenSpec.ofChange fnExactTrivialStatesWrong)

/-- 'laws.FnExactMinimalMachine': WHATEVER THE INPUT: true; the input reads as it did. -/
def fnExactMinimalMachineSpec : ChangeSpec := { name := "fnExactMinimalMachine", fn := fun _ => fun
  | [d] => { results := [.lit (.bool true)], args := [d] }
  | _ => none }
def fnExactMinimalMachineRow : OpenClaim := { program := "ytgcieocknlhjlab", sum := "7a261ab38ed31f4057c6849bc61aed50bf5a13a1fb591cd92d192ca5f6832fad", func := "loop.example/g01244/laws.FnExactMinimalMachine", spec := "fnExactMinimalMachine", plainKeys := false, apart := false }
def FnExactMinimalMachineSaid : Prop := fnExactMinimalMachineRow.holds Try.pinned (OpenSpec.ofChange fnExactMinimalMachineSpec)

/-- ITS FALSE NEIGHBOUR: 'it returns false'. Refute it at one input. -/
def fnExactMinimalMachineWrong : ChangeSpec := { name := "fnExactMinimalMachine", fn := fun _ => fun
  | [d] => { results := [.lit (.bool false)], args := [d] }
  | _ => none }
def FnExactMinimalMachineWrongFalsely : Prop := fnExactMinimalMachineRow.holds Try.pinned (OpenSpec.ofChange fnExactMinimalMachineWrong)

/-- 'laws.FnExactNormalWord': WHATEVER THE INPUT: true; the input reads as it did. -/
def fnExactNormalWordSpec : ChangeSpec := { name := "fnExactNormalWord", fn := fun _ => fun
  | [d1, d2] => { results := [.lit (.bool true)], args := [d1, d2] }
  | _ => none }
def fnExactNormalWordRow : OpenClaim := { program := "ytgcieocknlhjlab", sum := "7a261ab38ed31f4057c6849bc61aed50bf5a13a1fb591cd92d192ca5f6832fad", func := "loop.example/g01244/laws.FnExactNormalWord", spec := "fnExactNormalWord", plainKeys := false, apart := false }
def FnExactNormalWordSaid : Prop := fnExactNormalWordRow.holds Try.pinned (OpenSpec.ofChange fnExactNormalWordSpec)

/-- ITS FALSE NEIGHBOUR: 'it returns false'. Refute it at one input. -/
def fnExactNormalWordWrong : ChangeSpec := { name := "fnExactNormalWord", fn := fun _ => fun
  | [d1, d2] => { results := [.lit (.bool false)], args := [d1, d2] }
  | _ => none }
def FnExactNormalWordWrongFalsely : Prop := fnExactNormalWordRow.holds Try.pinned (OpenSpec.ofChange fnExactNormalWordWrong)

/- THE SECOND FORM. 'bulk': how many values and letters a reading holds, each counted each time it is reached (what is shared counts as often as it is met; a slice's spare places count too). A statement '..UptoSaid' is the law's where the arguments, and the package variables that the reading takes, are together of bulk at most 1048576: NARROWER than '..Said'. Prove '..Said' where nothing that the law and all that it calls make is longer than what came in: it says more and counts as full. Else prove '..UptoSaid'. A law counts once. -/
mutual
def uptoBulk {H : Type} : DataW H → Nat
  | .lit (.string bytes) => bytes.length + 1
  | .lit _ => 1
  | .nil => 1
  | .ptr d => uptoBulk d + 1
  | .slice elems spare => uptoBulkAll elems + uptoBulkAll spare + 1
  | .agg parts => uptoBulkAll parts + 1
  | .iface _ d => uptoBulk d + 1
  | .map entries => uptoBulkEntries entries + 1
  | .held _ => 1
def uptoBulkAll {H : Type} : List (DataW H) → Nat
  | [] => 0
  | d :: r => uptoBulk d + uptoBulkAll r
def uptoBulkEntries {H : Type} : List (Lit × DataW H) → Nat
  | [] => 0
  | x :: r => uptoBulkEntry x + uptoBulkEntries r
def uptoBulkEntry {H : Type} : Lit × DataW H → Nat
  | (.string bytes, d) => bytes.length + uptoBulk d + 1
  | (_, d) => uptoBulk d + 1
 end
def uptoSmall : (H : Type) → List (DataW H) → Bool := fun _ ds => decide (uptoBulkAll ds ≤ 1048576)
def OpenSpec.upto (s : _root_.Go.ChangeSpec) : _root_.Go.OpenSpec := { _root_.Go.OpenSpec.ofChange s with cond := some uptoSmall }

/-- 'laws.FnExactMachineText', WHERE WHAT IT READS IS OF BULK AT MOST 1048576: true; the input reads as it did. -/
def fnExactMachineTextUptoRow : OpenClaim := { program := "ytgcieocknlhjlab", sum := "7a261ab38ed31f4057c6849bc61aed50bf5a13a1fb591cd92d192ca5f6832fad", func := "loop.example/g01244/laws.FnExactMachineText", spec := "fnExactMachineText", recurses := true, plainKeys := false, apart := false, narrowed := true }
def FnExactMachineTextUptoSaid : Prop := fnExactMachineTextUptoRow.holds Try.pinned (OpenSpec.upto fnExactMachineTextSpec)

/-- 'laws.FnExactAreEqualStates', WHERE WHAT IT READS IS OF BULK AT MOST 1048576: true; the input reads as it did. -/
def fnExactAreEqualStatesUptoRow : OpenClaim := { program := "ytgcieocknlhjlab", sum := "7a261ab38ed31f4057c6849bc61aed50bf5a13a1fb591cd92d192ca5f6832fad", func := "loop.example/g01244/laws.FnExactAreEqualStates", spec := "fnExactAreEqualStates", plainKeys := false, apart := false, narrowed := true }
def FnExactAreEqualStatesUptoSaid : Prop := fnExactAreEqualStatesUptoRow.holds Try.pinned (OpenSpec.upto fnExactAreEqualStatesSpec)

/-- 'laws.FnExactTrivialStates', WHERE WHAT IT READS IS OF BULK AT MOST 1048576: true; the input reads as it did. -/
def fnExactTrivialStatesUptoRow : OpenClaim := { program := "ytgcieocknlhjlab", sum := "7a261ab38ed31f4057c6849bc61aed50bf5a13a1fb591cd92d192ca5f6832fad", func := "loop.example/g01244/laws.FnExactTrivialStates", spec := "fnExactTrivialStates", plainKeys := false, apart := false, narrowed := true }
def FnExactTrivialStatesUptoSaid : Prop := fnExactTrivialStatesUptoRow.holds Try.pinned (OpenSpec.upto fnExactTrivialStatesSpec)

/-- 'laws.FnExactMinimalMachine', WHERE WHAT IT READS IS OF BULK AT MOST 1048576: true; the input reads as it did. -/
def fnExactMinimalMachineUptoRow : OpenClaim := { program := "ytgcieocknlhjlab", sum := "7a261ab38ed31f4057c6849bc61aed50bf5a13a1fb591cd92d192ca5f6832fad", func := "loop.example/g01244/laws.FnExactMinimalMachine", spec := "fnExactMinimalMachine", plainKeys := false, apart := false, narrowed := true }
def FnExactMinimalMachineUptoSaid : Prop := fnExactMinimalMachineUptoRow.holds Try.pinned (OpenSpec.upto fnExactMinimalMachineSpec)

/-- 'laws.FnExactNormalWord', WHERE WHAT IT READS IS OF BULK AT MOST 1048576: true; the input reads as it did. -/
def fnExactNormalWordUptoRow : OpenClaim := { program := "ytgcieocknlhjlab", sum := "7a261ab38ed31f4057c6849bc61aed50bf5a13a1fb591cd92d192ca5f6832fad", func := "loop.example/g01244/laws.FnExactNormalWord", spec := "fnExactNormalWord", plainKeys := false, apart := false, narrowed := true }
def FnExactNormalWordUptoSaid : Prop := fnExactNormalWordUptoRow.holds Try.pinned (OpenSpec.upto fnExactNormalWordSpec)

end Rows
end Go.Proofs.Ytgcieocknlhjlab
