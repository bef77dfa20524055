/-
  No cell of these rows narrows 'for every input' (looked for: loops, veiled, ifaces, maps, wideKeys, modest, calm, conditions, laid).
  DERIVED. THE GIVEN ROWS OF THIS SEAT. 6 by the template 'for every input the law returns true; each argument reads behind the call as it read before'; 0 by the template 'total and deterministic' (their statements: YticnpajbefflbacTotals.lean).
  GIVEN WITH THE SEED: the statements are not yours to turn. If you find one false, say at which input.
  Laid BY PROGRAM, IN A SANDBOX (cutbox-rows.mjs): the forced cells as the released guide's own fill.sh prints them over the translation c2aa6532a47b1b5b… (all of the seat's roots in one cut). By AI agents, Wed Nov 11 2026. No macro, syntax, notation, axiom, sorry.
-/
import Derived.Test.YticnpajbefflbacChecked
import GoSem.Claim
import GoSem.ClaimJoined
import GoSem.ClaimMapViews
import Derived.JoinedTies
import Derived.KernelRfl
namespace Go.Proofs.Yticnpajbefflbac
/- THE CELL 'sum', in the pinned program and in every row, IS THE sha256 OF THE DUMP (.gsa) THAT YticnpajbefflbacProg.lean LOADS. Nothing in Lean hashes anything: it is a label: what it is worth is what the hold of that sum in a sandbox is worth. -/
noncomputable def Try.pinned : Pinned := { name := "yticnpajbefflbac", sum := "c2aa6532a47b1b5b8189e38ff2c8e711f5afbc9c55105f42c05985713b358111", checked := Try.checked }
namespace Rows
def none {H : Type} : Left H := { results := [], args := [] }

/-- 'laws.FnExactReturnOf': WHATEVER THE INPUT: true; the input reads as it did. -/
def fnExactReturnOfSpec : ChangeSpec := { name := "fnExactReturnOf", fn := fun _ => fun
  | [d1, d2, d3] => { results := [.lit (.bool true)], args := [d1, d2, d3] }
  | _ => none }
def fnExactReturnOfRow : OpenClaim := { program := "yticnpajbefflbac", sum := "c2aa6532a47b1b5b8189e38ff2c8e711f5afbc9c55105f42c05985713b358111", func := "loop.example/g01244/laws.FnExactReturnOf", spec := "fnExactReturnOf", unfollowed := true, recurses := true, plainKeys := false, apart := false }
def FnExactReturnOfSaid : Prop := fnExactReturnOfRow.holds Try.pinned (OpenSpec.ofChange fnExactReturnOfSpec)

/-- ITS FALSE NEIGHBOUR: 'it returns false'. Refute it at one input. -/
def fnExactReturnOfWrong : ChangeSpec := { name := "fnExactReturnOf", fn := fun _ => fun
  | [d1, d2, d3] => { results := [.lit (.bool false)], args := [d1, d2, d3] }
  | _ => none }
def FnExactReturnOfWrongFalsely : Prop := fnExactReturnOfRow.holds Try.pinned (OpenSpec.ofChange fnExactReturnOfWrong)

/-- 'laws.FnExactOrderOf': WHATEVER THE INPUT: true; the input reads as it did. -/
def fnExactOrderOfSpec : ChangeSpec := { name := "fnExactOrderOf", fn := fun _ => fun
  | [d1, d2] => { results := [.lit (.bool true)], args := [d1, d2] }
  | _ => none }
def fnExactOrderOfRow : OpenClaim := { program := "yticnpajbefflbac", sum := "c2aa6532a47b1b5b8189e38ff2c8e711f5afbc9c55105f42c05985713b358111", func := "loop.example/g01244/laws.FnExactOrderOf", spec := "fnExactOrderOf", unfollowed := true, recurses := true, plainKeys := false, apart := false }
def FnExactOrderOfSaid : Prop := fnExactOrderOfRow.holds Try.pinned (OpenSpec.ofChange fnExactOrderOfSpec)

/-- ITS FALSE NEIGHBOUR: 'it returns false'. Refute it at one input. -/
def fnExactOrderOfWrong : ChangeSpec := { name := "fnExactOrderOf", fn := fun _ => fun
  | [d1, d2] => { results := [.lit (.bool false)], args := [d1, d2] }
  | _ => none }
def FnExactOrderOfWrongFalsely : Prop := fnExactOrderOfRow.holds Try.pinned (OpenSpec.ofChange fnExactOrderOfWrong)

/-- 'laws.FnExactInfiniteProof': WHATEVER THE INPUT: true; the input reads as it did. -/
def fnExactInfiniteProofSpec : ChangeSpec := { name := "fnExactInfiniteProof", fn := fun _ => fun
  | [d1, d2] => { results := [.lit (.bool true)], args := [d1, d2] }
  | _ => none }
def fnExactInfiniteProofRow : OpenClaim := { program := "yticnpajbefflbac", sum := "c2aa6532a47b1b5b8189e38ff2c8e711f5afbc9c55105f42c05985713b358111", func := "loop.example/g01244/laws.FnExactInfiniteProof", spec := "fnExactInfiniteProof", unfollowed := true, recurses := true, plainKeys := false, apart := false }
def FnExactInfiniteProofSaid : Prop := fnExactInfiniteProofRow.holds Try.pinned (OpenSpec.ofChange fnExactInfiniteProofSpec)

/-- ITS FALSE NEIGHBOUR: 'it returns false'. Refute it at one input. -/
def fnExactInfiniteProofWrong : ChangeSpec := { name := "fnExactInfiniteProof", fn := fun _ => fun
  | [d1, d2] => { results := [.lit (.bool false)], args := [d1, d2] }
  | _ => none }
def FnExactInfiniteProofWrongFalsely : Prop := fnExactInfiniteProofRow.holds Try.pinned (OpenSpec.ofChange fnExactInfiniteProofWrong)

/-- 'laws.FnExactOrdersOfStates': WHATEVER THE INPUT: true; the input reads as it did. -/
def fnExactOrdersOfStatesSpec : ChangeSpec := { name := "fnExactOrdersOfStates", fn := fun _ => fun
  | [d] => { results := [.lit (.bool true)], args := [d] }
  | _ => none }
def fnExactOrdersOfStatesRow : OpenClaim := { program := "yticnpajbefflbac", sum := "c2aa6532a47b1b5b8189e38ff2c8e711f5afbc9c55105f42c05985713b358111", func := "loop.example/g01244/laws.FnExactOrdersOfStates", spec := "fnExactOrdersOfStates", unfollowed := true, recurses := true, plainKeys := false, apart := false }
def FnExactOrdersOfStatesSaid : Prop := fnExactOrdersOfStatesRow.holds Try.pinned (OpenSpec.ofChange fnExactOrdersOfStatesSpec)

/-- ITS FALSE NEIGHBOUR: 'it returns false'. Refute it at one input. -/
def fnExactOrdersOfStatesWrong : ChangeSpec := { name := "fnExactOrdersOfStates", fn := fun _ => fun
  | [d] => { results := [.lit (.bool false)], args := [d] }
  | _ => none }
def FnExactOrdersOfStatesWrongFalsely : Prop := fnExactOrdersOfStatesRow.holds Try.pinned (OpenSpec.ofChange fnExactOrdersOfStatesWrong)

/-- 'laws.FnExactTorsionUpTo': WHATEVER THE INPUT: true; the input reads as it did. -/
def fnExactTorsionUpToSpec : ChangeSpec := { name := "fnExactTorsionUpTo", fn := fun _ => fun
  | [d1, d2] => { results := [.lit (.bool true)], args := [d1, d2] }
  | _ => none }
def fnExactTorsionUpToRow : OpenClaim := { program := "yticnpajbefflbac", sum := "c2aa6532a47b1b5b8189e38ff2c8e711f5afbc9c55105f42c05985713b358111", func := "loop.example/g01244/laws.FnExactTorsionUpTo", spec := "fnExactTorsionUpTo", unfollowed := true, recurses := true, plainKeys := false, apart := false }
def FnExactTorsionUpToSaid : Prop := fnExactTorsionUpToRow.holds Try.pinned (OpenSpec.ofChange fnExactTorsionUpToSpec)

/-- ITS FALSE NEIGHBOUR: 'it returns false'. Refute it at one input. -/
def fnExactTorsionUpToWrong : ChangeSpec := { name := "fnExactTorsionUpTo", fn := fun _ => fun
  | [d1, d2] => { results := [.lit (.bool false)], args := [d1, d2] }
  | _ => none }
def FnExactTorsionUpToWrongFalsely : Prop := fnExactTorsionUpToRow.holds Try.pinned (OpenSpec.ofChange fnExactTorsionUpToWrong)

/-- 'laws.FnExactMachineOfWord': WHATEVER THE INPUT: true; the input reads as it did. -/
def fnExactMachineOfWordSpec : ChangeSpec := { name := "fnExactMachineOfWord", fn := fun _ => fun
  | [d1, d2] => { results := [.lit (.bool true)], args := [d1, d2] }
  | _ => none }
def fnExactMachineOfWordRow : OpenClaim := { program := "yticnpajbefflbac", sum := "c2aa6532a47b1b5b8189e38ff2c8e711f5afbc9c55105f42c05985713b358111", func := "loop.example/g01244/laws.FnExactMachineOfWord", spec := "fnExactMachineOfWord", unfollowed := true, recurses := true, plainKeys := false, apart := false }
def FnExactMachineOfWordSaid : Prop := fnExactMachineOfWordRow.holds Try.pinned (OpenSpec.ofChange fnExactMachineOfWordSpec)

/-- ITS FALSE NEIGHBOUR: 'it returns false'. Refute it at one input. -/
def fnExactMachineOfWordWrong : ChangeSpec := { name := "fnExactMachineOfWord", fn := fun _ => fun
  | [d1, d2] => { results := [.lit (.bool false)], args := [d1, d2] }
  | _ => none }
def FnExactMachineOfWordWrongFalsely : Prop := fnExactMachineOfWordRow.holds Try.pinned (OpenSpec.ofChange fnExactMachineOfWordWrong)

/- THE SECOND FORM. 'bulk': how many values and letters a reading holds, each counted each time it is reached (what is shared counts as often as it is met; a slice's spare places count too). A statement '..UptoSaid' is the law's where the arguments, and the package variables that the reading takes, are together of bulk at most 1048576: NARROWER than '..Said'. Prove '..Said' where nothing that the law and all that it calls make is longer than what came in: it says more and counts as full. Else prove '..UptoSaid'. A law counts once. -/
mutual
def uptoBulk {H : Type} : DataW H → Nat
  | .lit (.string bytes) => bytes.length + 1
  | .lit _ => 1
  | .nil => 1
  | .ptr d => uptoBulk d + 1
  | .slice elems spare => uptoBulkAll elems + uptoBulkAll spare + 1
  | .agg parts => uptoBulkAll parts + 1
  | .iface _ d => uptoBulk d + 1
  | .map entries => uptoBulkEntries entries + 1
  | .held _ => 1
def uptoBulkAll {H : Type} : List (DataW H) → Nat
  | [] => 0
  | d :: r => uptoBulk d + uptoBulkAll r
def uptoBulkEntries {H : Type} : List (Lit × DataW H) → Nat
  | [] => 0
  | x :: r => uptoBulkEntry x + uptoBulkEntries r
def uptoBulkEntry {H : Type} : Lit × DataW H → Nat
  | (.string bytes, d) => bytes.length + uptoBulk d + 1
  | (_, d) => uptoBulk d + 1
 end
def uptoSmall : (H : Type) → List (DataW H) → Bool := fun _ ds => decide (uptoBulkAll ds ≤ 1048576)
def OpenSpec.upto (s : _root_.Go.ChangeSpec) : _root_.Go.OpenSpec := { _root_.Go.OpenSpec.ofChange s with cond := some uptoSmall }

/-- 'laws.FnExactReturnOf', WHERE WHAT IT READS IS OF BULK AT MOST 1048576: true; the input reads as it did. -/
def fnExactReturnOfUptoRow : OpenClaim := { program := "yticnpajbefflbac", sum := "c2aa6532a47b1b5b8189e38ff2c8e711f5afbc9c55105f42c05985713b358111", func := "loop.example/g01244/laws.FnExactReturnOf", spec := "fnExactReturnOf", unfollowed := true, recurses := true, plainKeys := false, apart := false, narrowed := true }
def FnExactReturnOfUptoSaid : Prop := fnExactReturnOfUptoRow.holds Try.pinned (OpenSpec.upto fnExactReturnOfSpec)

/-- 'laws.FnExactOrderOf', WHERE WHAT IT READS IS OF BULK AT MOST 1048576: true; the input reads as it did. -/
def fnExactOrderOfUptoRow : OpenClaim := { program := "yticnpajbefflbac", sum := "c2aa6532a47b1b5b8189e38ff2c8e711f5afbc9c55105f42c05985713b358111", func := "loop.example/g01244/laws.FnExactOrderOf", spec := "fnExactOrderOf", unfollowed := true, recurses := true, plainKeys := false, apart := false, narrowed := true }
def FnExactOrderOfUptoSaid : Prop := fnExactOrderOfUptoRow.holds Try.pinned (OpenSpec.upto fnExactOrderOfSpec)

/-- 'laws.FnExactInfiniteProof', WHERE WHAT IT READS IS OF BULK AT MOST 1048576: true; the input reads as it did. -/
def fnExactInfiniteProofUptoRow : OpenClaim := { program := "yticnpajbefflbac", sum := "c2aa6532a47b1b5b8189e38ff2c8e711f5afbc9c55105f42c05985713b358111", func := "loop.example/g01244/laws.FnExactInfiniteProof", spec := "fnExactInfiniteProof", unfollowed := true, recurses := true, plainKeys := false, apart := false, narrowed := true }
def FnExactInfiniteProofUptoSaid : Prop := fnExactInfiniteProofUptoRow.holds Try.pinned (OpenSpec.upto fnExactInfiniteProofSpec)

/-- 'laws.FnExactOrdersOfStates', WHERE WHAT IT READS IS OF BULK AT MOST 1048576: true; the input reads as it did. -/
def fnExactOrdersOfStatesUptoRow : OpenClaim := { program := "yticnpajbefflbac", sum := "c2aa6532a47b1b5b8189e38ff2c8e711f5afbc9c55105f42c05985713b358111", func := "loop.example/g01244/laws.FnExactOrdersOfStates", spec := "fnExactOrdersOfStates", unfollowed := true, recurses := true, plainKeys := false, apart := false, narrowed := true }
def FnExactOrdersOfStatesUptoSaid : Prop := fnExactOrdersOfStatesUptoRow.holds Try.pinned (OpenSpec.upto fnExactOrdersOfStatesSpec)

/-- 'laws.FnExactTorsionUpTo', WHERE WHAT IT READS IS OF BULK AT MOST 1048576: true; the input reads as it did. -/
def fnExactTorsionUpToUptoRow : OpenClaim := { program := "yticnpajbefflbac", sum := "c2aa6532a47b1b5b8189e38ff2c8e711f5afbc9c55105f42c05985713b358111", func := "loop.example/g01244/laws.FnExactTorsionUpTo", spec := "fnExactTorsionUpTo", unfollowed := true, recurses := true, plainKeys := false, apart := false, narrowed := true }
def FnExactTorsionUpToUptoSaid : Prop := fnExactTorsionUpToUptoRow.holds Try.pinned (OpenSpec.upto fnExactTorsionUpToSpec)

/-- 'laws.FnExactMachineOfWord', WHERE WHAT IT READS IS OF BULK AT MOST 1048576: true; the input reads as it did. -/
def fnExactMachineOfWordUptoRow : OpenClaim := { program := "yticnpajbefflbac", sum := "c2aa6532a47b1b5b8189e38ff2c8e711f5afbc9c55105f42c05985713b358111", func := "loop.example/g01244/laws.FnExactMachineOfWord", spec := "fnExactMachineOfWord", unfollowed := true, recurses := true, plainKeys := false, apart := false, narrowed := true }
def FnExactMachineOfWordUptoSaid : Prop := fnExactMachineOfWordUptoRow.holds Try.pinned (OpenSpec.upto fnExactMachineOfWordSpec)

end Rows
end Go.Proofs.Yticnpajbefflbac
