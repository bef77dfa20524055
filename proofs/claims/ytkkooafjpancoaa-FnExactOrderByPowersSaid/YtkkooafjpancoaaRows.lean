/-
  No cell of these rows narrows 'for every input' (looked for: loops, veiled, ifaces, maps, wideKeys, modest, calm, conditions, laid).
  DERIVED. THE GIVEN ROWS OF THIS SEAT. 10 by the template 'for every input the law returns true; each argument reads behind the call as it read before'; 0 by the template 'total and deterministic' (their statements: YtkkooafjpancoaaTotals.lean).
  GIVEN WITH THE SEED: the statements are not yours to turn. If you find one false, say at which input.
  Laid BY PROGRAM, IN A SANDBOX (cutbox-rows.mjs): the forced cells as the released guide's own fill.sh prints them over the translation edc5498632deef48… (all of the seat's roots in one cut). By AI agents, Wed Nov 11 2026. No macro, syntax, notation, axiom, sorry.
-/
import Derived.Test.YtkkooafjpancoaaChecked
import GoSem.Claim
import GoSem.ClaimJoined
import GoSem.ClaimMapViews
import Derived.JoinedTies
import Derived.KernelRfl
namespace Go.Proofs.Ytkkooafjpancoaa
/- THE CELL 'sum', in the pinned program and in every row, IS THE sha256 OF THE DUMP (.gsa) THAT YtkkooafjpancoaaProg.lean LOADS. Nothing in Lean hashes anything: it is a label: what it is worth is what the hold of that sum in a sandbox is worth. -/
noncomputable def Try.pinned : Pinned := { name := "ytkkooafjpancoaa", sum := "edc5498632deef488619780719fd211f1ec82e22ceaae4b0e6ff636c95431437", checked := Try.checked }
namespace Rows
def none {H : Type} : Left H := { results := [], args := [] }

/-- 'laws.FnExactIsReversible': WHATEVER THE INPUT: true; the input reads as it did. -/
def fnExactIsReversibleSpec : ChangeSpec := { name := "fnExactIsReversible", fn := fun _ => fun
  | [d] => { results := [.lit (.bool true)], args := [d] }
  | _ => none }
def fnExactIsReversibleRow : OpenClaim := { program := "ytkkooafjpancoaa", sum := "edc5498632deef488619780719fd211f1ec82e22ceaae4b0e6ff636c95431437", func := "loop.example/g01244/laws.FnExactIsReversible", spec := "fnExactIsReversible", plainKeys := false, apart := false }
def FnExactIsReversibleSaid : Prop := fnExactIsReversibleRow.holds Try.pinned (OpenSpec.ofChange fnExactIsReversibleSpec)

/-- ITS FALSE NEIGHBOUR: 'it returns false'. Refute it at one input. -/
def fnExactIsReversibleWrong : ChangeSpec := { name := "fnExactIsReversible", fn := fun _ => fun
  | [d] => { results := [.lit (.bool false)], args := [d] }
  | _ => none }
def FnExactIsReversibleWrongFalsely : Prop := fnExactIsReversibleRow.holds Try.pinned (OpenSpec.ofChange fnExactIsReversibleWrong)

/-- 'laws.FnExactIsBireversible': WHATEVER THE INPUT: true; the input reads as it did. -/
def fnExactIsBireversibleSpec : ChangeSpec := { name := "fnExactIsBireversible", fn := fun _ => fun
  | [d] => { results := [.lit (.bool true)], args := [d] }
  | _ => none }
def fnExactIsBireversibleRow : OpenClaim := { program := "ytkkooafjpancoaa", sum := "edc5498632deef488619780719fd211f1ec82e22ceaae4b0e6ff636c95431437", func := "loop.example/g01244/laws.FnExactIsBireversible", spec := "fnExactIsBireversible", plainKeys := false, apart := false }
def FnExactIsBireversibleSaid : Prop := fnExactIsBireversibleRow.holds Try.pinned (OpenSpec.ofChange fnExactIsBireversibleSpec)

/-- ITS FALSE NEIGHBOUR: 'it returns false'. Refute it at one input. -/
def fnExactIsBireversibleWrong : ChangeSpec := { name := "fnExactIsBireversible", fn := fun _ => fun
  | [d] => { results := [.lit (.bool false)], args := [d] }
  | _ => none }
def FnExactIsBireversibleWrongFalsely : Prop := fnExactIsBireversibleRow.holds Try.pinned (OpenSpec.ofChange fnExactIsBireversibleWrong)

/-- 'laws.FnExactDualMachine': WHATEVER THE INPUT: true; the input reads as it did. -/
def fnExactDualMachineSpec : ChangeSpec := { name := "fnExactDualMachine", fn := fun _ => fun
  | [d] => { results := [.lit (.bool true)], args := [d] }
  | _ => none }
def fnExactDualMachineRow : OpenClaim := { program := "ytkkooafjpancoaa", sum := "edc5498632deef488619780719fd211f1ec82e22ceaae4b0e6ff636c95431437", func := "loop.example/g01244/laws.FnExactDualMachine", spec := "fnExactDualMachine", plainKeys := false, apart := false }
def FnExactDualMachineSaid : Prop := fnExactDualMachineRow.holds Try.pinned (OpenSpec.ofChange fnExactDualMachineSpec)

/-- ITS FALSE NEIGHBOUR: 'it returns false'. Refute it at one input. -/
def fnExactDualMachineWrong : ChangeSpec := { name := "fnExactDualMachine", fn := fun _ => fun
  | [d] => { results := [.lit (.bool false)], args := [d] }
  | _ => none }
def FnExactDualMachineWrongFalsely : Prop := fnExactDualMachineRow.holds Try.pinned (OpenSpec.ofChange fnExactDualMachineWrong)

/-- 'laws.FnExactProductOfStates': WHATEVER THE INPUT: true; the input reads as it did. -/
def fnExactProductOfStatesSpec : ChangeSpec := { name := "fnExactProductOfStates", fn := fun _ => fun
  | [d1, d2, d3, d4] => { results := [.lit (.bool true)], args := [d1, d2, d3, d4] }
  | _ => none }
def fnExactProductOfStatesRow : OpenClaim := { program := "ytkkooafjpancoaa", sum := "edc5498632deef488619780719fd211f1ec82e22ceaae4b0e6ff636c95431437", func := "loop.example/g01244/laws.FnExactProductOfStates", spec := "fnExactProductOfStates", unfollowed := true, recurses := true, plainKeys := false, apart := false }
def FnExactProductOfStatesSaid : Prop := fnExactProductOfStatesRow.holds Try.pinned (OpenSpec.ofChange fnExactProductOfStatesSpec)

/-- ITS FALSE NEIGHBOUR: 'it returns false'. Refute it at one input. -/
def fnExactProductOfStatesWrong : ChangeSpec := { name := "fnExactProductOfStates", fn := fun _ => fun
  | [d1, d2, d3, d4] => { results := [.lit (.bool false)], args := [d1, d2, d3, d4] }
  | _ => none }
def FnExactProductOfStatesWrongFalsely : Prop := fnExactProductOfStatesRow.holds Try.pinned (OpenSpec.ofChange fnExactProductOfStatesWrong)

/-- 'laws.FnExactMachineOfState': WHATEVER THE INPUT: true; the input reads as it did. -/
def fnExactMachineOfStateSpec : ChangeSpec := { name := "fnExactMachineOfState", fn := fun _ => fun
  | [d1, d2] => { results := [.lit (.bool true)], args := [d1, d2] }
  | _ => none }
def fnExactMachineOfStateRow : OpenClaim := { program := "ytkkooafjpancoaa", sum := "edc5498632deef488619780719fd211f1ec82e22ceaae4b0e6ff636c95431437", func := "loop.example/g01244/laws.FnExactMachineOfState", spec := "fnExactMachineOfState", unfollowed := true, recurses := true, plainKeys := false, apart := false }
def FnExactMachineOfStateSaid : Prop := fnExactMachineOfStateRow.holds Try.pinned (OpenSpec.ofChange fnExactMachineOfStateSpec)

/-- ITS FALSE NEIGHBOUR: 'it returns false'. Refute it at one input. -/
def fnExactMachineOfStateWrong : ChangeSpec := { name := "fnExactMachineOfState", fn := fun _ => fun
  | [d1, d2] => { results := [.lit (.bool false)], args := [d1, d2] }
  | _ => none }
def FnExactMachineOfStateWrongFalsely : Prop := fnExactMachineOfStateRow.holds Try.pinned (OpenSpec.ofChange fnExactMachineOfStateWrong)

/-- 'laws.FnExactAreEqualAcross': WHATEVER THE INPUT: true; the input reads as it did. -/
def fnExactAreEqualAcrossSpec : ChangeSpec := { name := "fnExactAreEqualAcross", fn := fun _ => fun
  | [d1, d2, d3, d4] => { results := [.lit (.bool true)], args := [d1, d2, d3, d4] }
  | _ => none }
def fnExactAreEqualAcrossRow : OpenClaim := { program := "ytkkooafjpancoaa", sum := "edc5498632deef488619780719fd211f1ec82e22ceaae4b0e6ff636c95431437", func := "loop.example/g01244/laws.FnExactAreEqualAcross", spec := "fnExactAreEqualAcross", plainKeys := false, apart := false }
def FnExactAreEqualAcrossSaid : Prop := fnExactAreEqualAcrossRow.holds Try.pinned (OpenSpec.ofChange fnExactAreEqualAcrossSpec)

/-- ITS FALSE NEIGHBOUR: 'it returns false'. Refute it at one input. -/
def fnExactAreEqualAcrossWrong : ChangeSpec := { name := "fnExactAreEqualAcross", fn := fun _ => fun
  | [d1, d2, d3, d4] => { results := [.lit (.bool false)], args := [d1, d2, d3, d4] }
  | _ => none }
def FnExactAreEqualAcrossWrongFalsely : Prop := fnExactAreEqualAcrossRow.holds Try.pinned (OpenSpec.ofChange fnExactAreEqualAcrossWrong)

/-- 'laws.FnExactPowerOfState': WHATEVER THE INPUT: true; the input reads as it did. -/
def fnExactPowerOfStateSpec : ChangeSpec := { name := "fnExactPowerOfState", fn := fun _ => fun
  | [d1, d2, d3] => { results := [.lit (.bool true)], args := [d1, d2, d3] }
  | _ => none }
def fnExactPowerOfStateRow : OpenClaim := { program := "ytkkooafjpancoaa", sum := "edc5498632deef488619780719fd211f1ec82e22ceaae4b0e6ff636c95431437", func := "loop.example/g01244/laws.FnExactPowerOfState", spec := "fnExactPowerOfState", unfollowed := true, recurses := true, plainKeys := false, apart := false }
def FnExactPowerOfStateSaid : Prop := fnExactPowerOfStateRow.holds Try.pinned (OpenSpec.ofChange fnExactPowerOfStateSpec)

/-- ITS FALSE NEIGHBOUR: 'it returns false'. Refute it at one input. -/
def fnExactPowerOfStateWrong : ChangeSpec := { name := "fnExactPowerOfState", fn := fun _ => fun
  | [d1, d2, d3] => { results := [.lit (.bool false)], args := [d1, d2, d3] }
  | _ => none }
def FnExactPowerOfStateWrongFalsely : Prop := fnExactPowerOfStateRow.holds Try.pinned (OpenSpec.ofChange fnExactPowerOfStateWrong)

/-- 'laws.FnExactCommutatorOfStates': WHATEVER THE INPUT: true; the input reads as it did. -/
def fnExactCommutatorOfStatesSpec : ChangeSpec := { name := "fnExactCommutatorOfStates", fn := fun _ => fun
  | [d1, d2, d3] => { results := [.lit (.bool true)], args := [d1, d2, d3] }
  | _ => none }
def fnExactCommutatorOfStatesRow : OpenClaim := { program := "ytkkooafjpancoaa", sum := "edc5498632deef488619780719fd211f1ec82e22ceaae4b0e6ff636c95431437", func := "loop.example/g01244/laws.FnExactCommutatorOfStates", spec := "fnExactCommutatorOfStates", unfollowed := true, recurses := true, plainKeys := false, apart := false }
def FnExactCommutatorOfStatesSaid : Prop := fnExactCommutatorOfStatesRow.holds Try.pinned (OpenSpec.ofChange fnExactCommutatorOfStatesSpec)

/-- ITS FALSE NEIGHBOUR: 'it returns false'. Refute it at one input. -/
def fnExactCommutatorOfStatesWrong : ChangeSpec := { name := "fnExactCommutatorOfStates", fn := fun _ => fun
  | [d1, d2, d3] => { results := [.lit (.bool false)], args := [d1, d2, d3] }
  | _ => none }
def FnExactCommutatorOfStatesWrongFalsely : Prop := fnExactCommutatorOfStatesRow.holds Try.pinned (OpenSpec.ofChange fnExactCommutatorOfStatesWrong)

/-- 'laws.FnExactOrderByPowers': WHATEVER THE INPUT: true; the input reads as it did. -/
def fnExactOrderByPowersSpec : ChangeSpec := { name := "fnExactOrderByPowers", fn := fun _ => fun
  | [d1, d2, d3] => { results := [.lit (.bool true)], args := [d1, d2, d3] }
  | _ => none }
def fnExactOrderByPowersRow : OpenClaim := { program := "ytkkooafjpancoaa", sum := "edc5498632deef488619780719fd211f1ec82e22ceaae4b0e6ff636c95431437", func := "loop.example/g01244/laws.FnExactOrderByPowers", spec := "fnExactOrderByPowers", unfollowed := true, recurses := true, plainKeys := false, apart := false }
def FnExactOrderByPowersSaid : Prop := fnExactOrderByPowersRow.holds Try.pinned (OpenSpec.ofChange fnExactOrderByPowersSpec)

/-- ITS FALSE NEIGHBOUR: 'it returns false'. Refute it at one input. -/
def fnExactOrderByPowersWrong : ChangeSpec := { name := "fnExactOrderByPowers", fn := fun _ => fun
  | [d1, d2, d3] => { results := [.lit (.bool false)], args := [d1, d2, d3] }
  | _ => none }
def FnExactOrderByPowersWrongFalsely : Prop := fnExactOrderByPowersRow.holds Try.pinned (OpenSpec.ofChange fnExactOrderByPowersWrong)

/-- 'laws.FnExactDifferentActions': WHATEVER THE INPUT: true; the input reads as it did. -/
def fnExactDifferentActionsSpec : ChangeSpec := { name := "fnExactDifferentActions", fn := fun _ => fun
  | [d1, d2] => { results := [.lit (.bool true)], args := [d1, d2] }
  | _ => none }
def fnExactDifferentActionsRow : OpenClaim := { program := "ytkkooafjpancoaa", sum := "edc5498632deef488619780719fd211f1ec82e22ceaae4b0e6ff636c95431437", func := "loop.example/g01244/laws.FnExactDifferentActions", spec := "fnExactDifferentActions", unfollowed := true, recurses := true, plainKeys := false, apart := false }
def FnExactDifferentActionsSaid : Prop := fnExactDifferentActionsRow.holds Try.pinned (OpenSpec.ofChange fnExactDifferentActionsSpec)

/-- ITS FALSE NEIGHBOUR: 'it returns false'. Refute it at one input. -/
def fnExactDifferentActionsWrong : ChangeSpec := { name := "fnExactDifferentActions", fn := fun _ => fun
  | [d1, d2] => { results := [.lit (.bool false)], args := [d1, d2] }
  | _ => none }
def FnExactDifferentActionsWrongFalsely : Prop := fnExactDifferentActionsRow.holds Try.pinned (OpenSpec.ofChange fnExactDifferentActionsWrong)

/- THE SECOND FORM. 'bulk': how many values and letters a reading holds, each counted each time it is reached (what is shared counts as often as it is met; a slice's spare places count too). A statement '..UptoSaid' is the law's where the arguments, and the package variables that the reading takes, are together of bulk at most 1048576: NARROWER than '..Said'. Prove '..Said' where nothing that the law and all that it calls make is longer than what came in: it says more and counts as full. Else prove '..UptoSaid'. A law counts once. -/
mutual
def uptoBulk {H : Type} : DataW H → Nat
  | .lit (.string bytes) => bytes.length + 1
  | .lit _ => 1
  | .nil => 1
  | .ptr d => uptoBulk d + 1
  | .slice elems spare => uptoBulkAll elems + uptoBulkAll spare + 1
  | .agg parts => uptoBulkAll parts + 1
  | .iface _ d => uptoBulk d + 1
  | .map entries => uptoBulkEntries entries + 1
  | .held _ => 1
def uptoBulkAll {H : Type} : List (DataW H) → Nat
  | [] => 0
  | d :: r => uptoBulk d + uptoBulkAll r
def uptoBulkEntries {H : Type} : List (Lit × DataW H) → Nat
  | [] => 0
  | x :: r => uptoBulkEntry x + uptoBulkEntries r
def uptoBulkEntry {H : Type} : Lit × DataW H → Nat
  | (.string bytes, d) => bytes.length + uptoBulk d + 1
  | (_, d) => uptoBulk d + 1
 end
def uptoSmall : (H : Type) → List (DataW H) → Bool := fun _ ds => decide (uptoBulkAll ds ≤ 1048576)
def OpenSpec.upto (s : _root_.Go.ChangeSpec) : _root_.Go.OpenSpec := { _root_.Go.OpenSpec.ofChange s with cond := some uptoSmall }

/-- 'laws.FnExactIsReversible', WHERE WHAT IT READS IS OF BULK AT MOST 1048576: true; the input reads as it did. -/
def fnExactIsReversibleUptoRow : OpenClaim := { program := "ytkkooafjpancoaa", sum := "edc5498632deef488619780719fd211f1ec82e22ceaae4b0e6ff636c95431437", func := "loop.example/g01244/laws.FnExactIsReversible", spec := "fnExactIsReversible", plainKeys := false, apart := false, narrowed := true }
def FnExactIsReversibleUptoSaid : Prop := fnExactIsReversibleUptoRow.holds Try.pinned (OpenSpec.upto fnExactIsReversibleSpec)

/-- 'laws.FnExactIsBireversible', WHERE WHAT IT READS IS OF BULK AT MOST 1048576: true; the input reads as it did. -/
def fnExactIsBireversibleUptoRow : OpenClaim := { program := "ytkkooafjpancoaa", sum := "edc5498632deef488619780719fd211f1ec82e22ceaae4b0e6ff636c95431437", func := "loop.example/g01244/laws.FnExactIsBireversible", spec := "fnExactIsBireversible", plainKeys := false, apart := false, narrowed := true }
def FnExactIsBireversibleUptoSaid : Prop := fnExactIsBireversibleUptoRow.holds Try.pinned (OpenSpec.upto fnExactIsBireversibleSpec)

/-- 'laws.FnExactDualMachine', WHERE WHAT IT READS IS OF BULK AT MOST 1048576: true; the input reads as it did. -/
def fnExactDualMachineUptoRow : OpenClaim := { program := "ytkkooafjpancoaa", sum := "edc5498632deef488619780719fd211f1ec82e22ceaae4b0e6ff636c95431437", func := "loop.example/g01244/laws.FnExactDualMachine", spec := "fnExactDualMachine", plainKeys := false, apart := false, narrowed := true }
def FnExactDualMachineUptoSaid : Prop := fnExactDualMachineUptoRow.holds Try.pinned (OpenSpec.upto fnExactDualMachineSpec)

/-- 'laws.FnExactProductOfStates', WHERE WHAT IT READS IS OF BULK AT MOST 1048576: true; the input reads as it did. -/
def fnExactProductOfStatesUptoRow : OpenClaim := { program := "ytkkooafjpancoaa", sum := "edc5498632deef488619780719fd211f1ec82e22ceaae4b0e6ff636c95431437", func := "loop.example/g01244/laws.FnExactProductOfStates", spec := "fnExactProductOfStates", unfollowed := true, recurses := true, plainKeys := false, apart := false, narrowed := true }
def FnExactProductOfStatesUptoSaid : Prop := fnExactProductOfStatesUptoRow.holds Try.pinned (OpenSpec.upto fnExactProductOfStatesSpec)

/-- 'laws.FnExactMachineOfState', WHERE WHAT IT READS IS OF BULK AT MOST 1048576: true; the input reads as it did. -/
def fnExactMachineOfStateUptoRow : OpenClaim := { program := "ytkkooafjpancoaa", sum := "edc5498632deef488619780719fd211f1ec82e22ceaae4b0e6ff636c95431437", func := "loop.example/g01244/laws.FnExactMachineOfState", spec := "fnExactMachineOfState", unfollowed := true, recurses := true, plainKeys := false, apart := false, narrowed := true }
def FnExactMachineOfStateUptoSaid : Prop := fnExactMachineOfStateUptoRow.holds Try.pinned (OpenSpec.upto fnExactMachineOfStateSpec)

/-- 'laws.FnExactAreEqualAcross', WHERE WHAT IT READS IS OF BULK AT MOST 1048576: true; the input reads as it did. -/
def fnExactAreEqualAcrossUptoRow : OpenClaim := { program := "ytkkooafjpancoaa", sum := "edc5498632deef488619780719fd211f1ec82e22ceaae4b0e6ff636c95431437", func := "loop.example/g01244/laws.FnExactAreEqualAcross", spec := "fnExactAreEqualAcross", plainKeys := false, apart := false, narrowed := true }
def FnExactAreEqualAcrossUptoSaid : Prop := fnExactAreEqualAcrossUptoRow.holds Try.pinned (OpenSpec.upto fnExactAreEqualAcrossSpec)

/-- 'laws.FnExactPowerOfState', WHERE WHAT IT READS IS OF BULK AT MOST 1048576: true; the input reads as it did. -/
def fnExactPowerOfStateUptoRow : OpenClaim := { program := "ytkkooafjpancoaa", sum := "edc5498632deef488619780719fd211f1ec82e22ceaae4b0e6ff636c95431437", func := "loop.example/g01244/laws.FnExactPowerOfState", spec := "fnExactPowerOfState", unfollowed := true, recurses := true, plainKeys := false, apart := false, narrowed := true }
def FnExactPowerOfStateUptoSaid : Prop := fnExactPowerOfStateUptoRow.holds Try.pinned (OpenSpec.upto fnExactPowerOfStateSpec)

/-- 'laws.FnExactCommutatorOfStates', WHERE WHAT IT READS IS OF BULK AT MOST 1048576: true; the input reads as it did. -/
def fnExactCommutatorOfStatesUptoRow : OpenClaim := { program := "ytkkooafjpancoaa", sum := "edc5498632deef488619780719fd211f1ec82e22ceaae4b0e6ff636c95431437", func := "loop.example/g01244/laws.FnExactCommutatorOfStates", spec := "fnExactCommutatorOfStates", unfollowed := true, recurses := true, plainKeys := false, apart := false, narrowed := true }
def FnExactCommutatorOfStatesUptoSaid : Prop := fnExactCommutatorOfStatesUptoRow.holds Try.pinned (OpenSpec.upto fnExactCommutatorOfStatesSpec)

/-- 'laws.FnExactOrderByPowers', WHERE WHAT IT READS IS OF BULK AT MOST 1048576: true; the input reads as it did. -/
def fnExactOrderByPowersUptoRow : OpenClaim := { program := "ytkkooafjpancoaa", sum := "edc5498632deef488619780719fd211f1ec82e22ceaae4b0e6ff636c95431437", func := "loop.example/g01244/laws.FnExactOrderByPowers", spec := "fnExactOrderByPowers", unfollowed := true, recurses := true, plainKeys := false, apart := false, narrowed := true }
def FnExactOrderByPowersUptoSaid : Prop := fnExactOrderByPowersUptoRow.holds Try.pinned (OpenSpec.upto fnExactOrderByPowersSpec)

/-- 'laws.FnExactDifferentActions', WHERE WHAT IT READS IS OF BULK AT MOST 1048576: true; the input reads as it did. -/
def fnExactDifferentActionsUptoRow : OpenClaim := { program := "ytkkooafjpancoaa", sum := "edc5498632deef488619780719fd211f1ec82e22ceaae4b0e6ff636c95431437", func := "loop.example/g01244/laws.FnExactDifferentActions", spec := "fnExactDifferentActions", unfollowed := true, recurses := true, plainKeys := false, apart := false, narrowed := true }
def FnExactDifferentActionsUptoSaid : Prop := fnExactDifferentActionsUptoRow.holds Try.pinned (OpenSpec.upto fnExactDifferentActionsSpec)

end Rows
end Go.Proofs.Ytkkooafjpancoaa
