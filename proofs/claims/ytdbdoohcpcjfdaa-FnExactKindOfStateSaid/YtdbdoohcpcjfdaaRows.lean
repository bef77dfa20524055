/-
  No cell of these rows narrows 'for every input' (looked for: loops, veiled, ifaces, maps, wideKeys, modest, calm, conditions, laid).
  DERIVED. THE GIVEN ROWS OF THIS SEAT. 7 by the template 'for every input the law returns true; each argument reads behind the call as it read before'; 0 by the template 'total and deterministic' (their statements: YtdbdoohcpcjfdaaTotals.lean).
  GIVEN WITH THE SEED: the statements are not yours to turn. If you find one false, say at which input.
  Laid BY PROGRAM, IN A SANDBOX (cutbox-rows.mjs): the forced cells as the released guide's own fill.sh prints them over the translation db351c48c431f192… (all of the seat's roots in one cut). By AI agents, Wed Nov 11 2026. No macro, syntax, notation, axiom, sorry.
-/
import Derived.Test.YtdbdoohcpcjfdaaChecked
import GoSem.Claim
import GoSem.ClaimJoined
import GoSem.ClaimMapViews
import Derived.JoinedTies
import Derived.KernelRfl
namespace Go.Proofs.Ytdbdoohcpcjfdaa
/- THE CELL 'sum', in the pinned program and in every row, IS THE sha256 OF THE DUMP (.gsa) THAT YtdbdoohcpcjfdaaProg.lean LOADS. Nothing in Lean hashes anything: it is a label: what it is worth is what the hold of that sum in a sandbox is worth. -/
noncomputable def Try.pinned : Pinned := { name := "ytdbdoohcpcjfdaa", sum := "db351c48c431f192481a33712f7d84c68651cddde75dde3991668adcfc8d7c39", checked := Try.checked }
namespace Rows
def none {H : Type} : Left H := { results := [], args := [] }

/-- 'laws.FnExactActiveAt': WHATEVER THE INPUT: true; the input reads as it did. -/
def fnExactActiveAtSpec : ChangeSpec := { name := "fnExactActiveAt", fn := fun _ => fun
  | [d1, d2, d3] => { results := [.lit (.bool true)], args := [d1, d2, d3] }
  | _ => none }
def fnExactActiveAtRow : OpenClaim := { program := "ytdbdoohcpcjfdaa", sum := "db351c48c431f192481a33712f7d84c68651cddde75dde3991668adcfc8d7c39", func := "loop.example/g01244/laws.FnExactActiveAt", spec := "fnExactActiveAt", plainKeys := false, apart := false }
def FnExactActiveAtSaid : Prop := fnExactActiveAtRow.holds Try.pinned (OpenSpec.ofChange fnExactActiveAtSpec)

/-- ITS FALSE NEIGHBOUR: 'it returns false'. Refute it at one input. -/
def fnExactActiveAtWrong : ChangeSpec := { name := "fnExactActiveAt", fn := fun _ => fun
  | [d1, d2, d3] => { results := [.lit (.bool false)], args := [d1, d2, d3] }
  | _ => none }
def FnExactActiveAtWrongFalsely : Prop := fnExactActiveAtRow.holds Try.pinned (OpenSpec.ofChange fnExactActiveAtWrong)

/-- 'laws.FnExactActivityCounts': WHATEVER THE INPUT: true; the input reads as it did. -/
def fnExactActivityCountsSpec : ChangeSpec := { name := "fnExactActivityCounts", fn := fun _ => fun
  | [d1, d2, d3] => { results := [.lit (.bool true)], args := [d1, d2, d3] }
  | _ => none }
def fnExactActivityCountsRow : OpenClaim := { program := "ytdbdoohcpcjfdaa", sum := "db351c48c431f192481a33712f7d84c68651cddde75dde3991668adcfc8d7c39", func := "loop.example/g01244/laws.FnExactActivityCounts", spec := "fnExactActivityCounts", plainKeys := false, apart := false }
def FnExactActivityCountsSaid : Prop := fnExactActivityCountsRow.holds Try.pinned (OpenSpec.ofChange fnExactActivityCountsSpec)

/-- ITS FALSE NEIGHBOUR: 'it returns false'. Refute it at one input. -/
def fnExactActivityCountsWrong : ChangeSpec := { name := "fnExactActivityCounts", fn := fun _ => fun
  | [d1, d2, d3] => { results := [.lit (.bool false)], args := [d1, d2, d3] }
  | _ => none }
def FnExactActivityCountsWrongFalsely : Prop := fnExactActivityCountsRow.holds Try.pinned (OpenSpec.ofChange fnExactActivityCountsWrong)

/-- 'laws.FnExactReturnWords': WHATEVER THE INPUT: true; the input reads as it did. -/
def fnExactReturnWordsSpec : ChangeSpec := { name := "fnExactReturnWords", fn := fun _ => fun
  | [d1, d2, d3] => { results := [.lit (.bool true)], args := [d1, d2, d3] }
  | _ => none }
def fnExactReturnWordsRow : OpenClaim := { program := "ytdbdoohcpcjfdaa", sum := "db351c48c431f192481a33712f7d84c68651cddde75dde3991668adcfc8d7c39", func := "loop.example/g01244/laws.FnExactReturnWords", spec := "fnExactReturnWords", unfollowed := true, recurses := true, plainKeys := false, apart := false }
def FnExactReturnWordsSaid : Prop := fnExactReturnWordsRow.holds Try.pinned (OpenSpec.ofChange fnExactReturnWordsSpec)

/-- ITS FALSE NEIGHBOUR: 'it returns false'. Refute it at one input. -/
def fnExactReturnWordsWrong : ChangeSpec := { name := "fnExactReturnWords", fn := fun _ => fun
  | [d1, d2, d3] => { results := [.lit (.bool false)], args := [d1, d2, d3] }
  | _ => none }
def FnExactReturnWordsWrongFalsely : Prop := fnExactReturnWordsRow.holds Try.pinned (OpenSpec.ofChange fnExactReturnWordsWrong)

/-- 'laws.FnExactBoundaryWords': WHATEVER THE INPUT: true; the input reads as it did. -/
def fnExactBoundaryWordsSpec : ChangeSpec := { name := "fnExactBoundaryWords", fn := fun _ => fun
  | [d1, d2] => { results := [.lit (.bool true)], args := [d1, d2] }
  | _ => none }
def fnExactBoundaryWordsRow : OpenClaim := { program := "ytdbdoohcpcjfdaa", sum := "db351c48c431f192481a33712f7d84c68651cddde75dde3991668adcfc8d7c39", func := "loop.example/g01244/laws.FnExactBoundaryWords", spec := "fnExactBoundaryWords", unfollowed := true, recurses := true, plainKeys := false, apart := false }
def FnExactBoundaryWordsSaid : Prop := fnExactBoundaryWordsRow.holds Try.pinned (OpenSpec.ofChange fnExactBoundaryWordsSpec)

/-- ITS FALSE NEIGHBOUR: 'it returns false'. Refute it at one input. -/
def fnExactBoundaryWordsWrong : ChangeSpec := { name := "fnExactBoundaryWords", fn := fun _ => fun
  | [d1, d2] => { results := [.lit (.bool false)], args := [d1, d2] }
  | _ => none }
def FnExactBoundaryWordsWrongFalsely : Prop := fnExactBoundaryWordsRow.holds Try.pinned (OpenSpec.ofChange fnExactBoundaryWordsWrong)

/-- 'laws.FnExactDepthOfState': WHATEVER THE INPUT: true; the input reads as it did. -/
def fnExactDepthOfStateSpec : ChangeSpec := { name := "fnExactDepthOfState", fn := fun _ => fun
  | [d1, d2] => { results := [.lit (.bool true)], args := [d1, d2] }
  | _ => none }
def fnExactDepthOfStateRow : OpenClaim := { program := "ytdbdoohcpcjfdaa", sum := "db351c48c431f192481a33712f7d84c68651cddde75dde3991668adcfc8d7c39", func := "loop.example/g01244/laws.FnExactDepthOfState", spec := "fnExactDepthOfState", recurses := true, plainKeys := false, apart := false }
def FnExactDepthOfStateSaid : Prop := fnExactDepthOfStateRow.holds Try.pinned (OpenSpec.ofChange fnExactDepthOfStateSpec)

/-- ITS FALSE NEIGHBOUR: 'it returns false'. Refute it at one input. -/
def fnExactDepthOfStateWrong : ChangeSpec := { name := "fnExactDepthOfState", fn := fun _ => fun
  | [d1, d2] => { results := [.lit (.bool false)], args := [d1, d2] }
  | _ => none }
def FnExactDepthOfStateWrongFalsely : Prop := fnExactDepthOfStateRow.holds Try.pinned (OpenSpec.ofChange fnExactDepthOfStateWrong)

/-- 'laws.FnExactKindOfState': WHATEVER THE INPUT: true; the input reads as it did. -/
def fnExactKindOfStateSpec : ChangeSpec := { name := "fnExactKindOfState", fn := fun _ => fun
  | [d1, d2] => { results := [.lit (.bool true)], args := [d1, d2] }
  | _ => none }
def fnExactKindOfStateRow : OpenClaim := { program := "ytdbdoohcpcjfdaa", sum := "db351c48c431f192481a33712f7d84c68651cddde75dde3991668adcfc8d7c39", func := "loop.example/g01244/laws.FnExactKindOfState", spec := "fnExactKindOfState", unfollowed := true, recurses := true, plainKeys := false, apart := false }
def FnExactKindOfStateSaid : Prop := fnExactKindOfStateRow.holds Try.pinned (OpenSpec.ofChange fnExactKindOfStateSpec)

/-- ITS FALSE NEIGHBOUR: 'it returns false'. Refute it at one input. -/
def fnExactKindOfStateWrong : ChangeSpec := { name := "fnExactKindOfState", fn := fun _ => fun
  | [d1, d2] => { results := [.lit (.bool false)], args := [d1, d2] }
  | _ => none }
def FnExactKindOfStateWrongFalsely : Prop := fnExactKindOfStateRow.holds Try.pinned (OpenSpec.ofChange fnExactKindOfStateWrong)

/-- 'laws.FnExactIsBoundedMachine': WHATEVER THE INPUT: true; the input reads as it did. -/
def fnExactIsBoundedMachineSpec : ChangeSpec := { name := "fnExactIsBoundedMachine", fn := fun _ => fun
  | [d] => { results := [.lit (.bool true)], args := [d] }
  | _ => none }
def fnExactIsBoundedMachineRow : OpenClaim := { program := "ytdbdoohcpcjfdaa", sum := "db351c48c431f192481a33712f7d84c68651cddde75dde3991668adcfc8d7c39", func := "loop.example/g01244/laws.FnExactIsBoundedMachine", spec := "fnExactIsBoundedMachine", unfollowed := true, recurses := true, plainKeys := false, apart := false }
def FnExactIsBoundedMachineSaid : Prop := fnExactIsBoundedMachineRow.holds Try.pinned (OpenSpec.ofChange fnExactIsBoundedMachineSpec)

/-- ITS FALSE NEIGHBOUR: 'it returns false'. Refute it at one input. -/
def fnExactIsBoundedMachineWrong : ChangeSpec := { name := "fnExactIsBoundedMachine", fn := fun _ => fun
  | [d] => { results := [.lit (.bool false)], args := [d] }
  | _ => none }
def FnExactIsBoundedMachineWrongFalsely : Prop := fnExactIsBoundedMachineRow.holds Try.pinned (OpenSpec.ofChange fnExactIsBoundedMachineWrong)

/- THE SECOND FORM. 'bulk': how many values and letters a reading holds, each counted each time it is reached (what is shared counts as often as it is met; a slice's spare places count too). A statement '..UptoSaid' is the law's where the arguments, and the package variables that the reading takes, are together of bulk at most 1048576: NARROWER than '..Said'. Prove '..Said' where nothing that the law and all that it calls make is longer than what came in: it says more and counts as full. Else prove '..UptoSaid'. A law counts once. -/
mutual
def uptoBulk {H : Type} : DataW H → Nat
  | .lit (.string bytes) => bytes.length + 1
  | .lit _ => 1
  | .nil => 1
  | .ptr d => uptoBulk d + 1
  | .slice elems spare => uptoBulkAll elems + uptoBulkAll spare + 1
  | .agg parts => uptoBulkAll parts + 1
  | .iface _ d => uptoBulk d + 1
  | .map entries => uptoBulkEntries entries + 1
  | .held _ => 1
def uptoBulkAll {H : Type} : List (DataW H) → Nat
  | [] => 0
  | d :: r => uptoBulk d + uptoBulkAll r
def uptoBulkEntries {H : Type} : List (Lit × DataW H) → Nat
  | [] => 0
  | x :: r => uptoBulkEntry x + uptoBulkEntries r
def uptoBulkEntry {H : Type} : Lit × DataW H → Nat
  | (.string bytes, d) => bytes.length + uptoBulk d + 1
  | (_, d) => uptoBulk d + 1
 end
def uptoSmall : (H : Type) → List (DataW H) → Bool := fun _ ds => decide (uptoBulkAll ds ≤ 1048576)
def OpenSpec.upto (s : _root_.Go.ChangeSpec) : _root_.Go.OpenSpec := { _root_.Go.OpenSpec.ofChange s with cond := some uptoSmall }

/-- 'laws.FnExactActiveAt', WHERE WHAT IT READS IS OF BULK AT MOST 1048576: true; the input reads as it did. -/
def fnExactActiveAtUptoRow : OpenClaim := { program := "ytdbdoohcpcjfdaa", sum := "db351c48c431f192481a33712f7d84c68651cddde75dde3991668adcfc8d7c39", func := "loop.example/g01244/laws.FnExactActiveAt", spec := "fnExactActiveAt", plainKeys := false, apart := false, narrowed := true }
def FnExactActiveAtUptoSaid : Prop := fnExactActiveAtUptoRow.holds Try.pinned (OpenSpec.upto fnExactActiveAtSpec)

/-- 'laws.FnExactActivityCounts', WHERE WHAT IT READS IS OF BULK AT MOST 1048576: true; the input reads as it did. -/
def fnExactActivityCountsUptoRow : OpenClaim := { program := "ytdbdoohcpcjfdaa", sum := "db351c48c431f192481a33712f7d84c68651cddde75dde3991668adcfc8d7c39", func := "loop.example/g01244/laws.FnExactActivityCounts", spec := "fnExactActivityCounts", plainKeys := false, apart := false, narrowed := true }
def FnExactActivityCountsUptoSaid : Prop := fnExactActivityCountsUptoRow.holds Try.pinned (OpenSpec.upto fnExactActivityCountsSpec)

/-- 'laws.FnExactReturnWords', WHERE WHAT IT READS IS OF BULK AT MOST 1048576: true; the input reads as it did. -/
def fnExactReturnWordsUptoRow : OpenClaim := { program := "ytdbdoohcpcjfdaa", sum := "db351c48c431f192481a33712f7d84c68651cddde75dde3991668adcfc8d7c39", func := "loop.example/g01244/laws.FnExactReturnWords", spec := "fnExactReturnWords", unfollowed := true, recurses := true, plainKeys := false, apart := false, narrowed := true }
def FnExactReturnWordsUptoSaid : Prop := fnExactReturnWordsUptoRow.holds Try.pinned (OpenSpec.upto fnExactReturnWordsSpec)

/-- 'laws.FnExactBoundaryWords', WHERE WHAT IT READS IS OF BULK AT MOST 1048576: true; the input reads as it did. -/
def fnExactBoundaryWordsUptoRow : OpenClaim := { program := "ytdbdoohcpcjfdaa", sum := "db351c48c431f192481a33712f7d84c68651cddde75dde3991668adcfc8d7c39", func := "loop.example/g01244/laws.FnExactBoundaryWords", spec := "fnExactBoundaryWords", unfollowed := true, recurses := true, plainKeys := false, apart := false, narrowed := true }
def FnExactBoundaryWordsUptoSaid : Prop := fnExactBoundaryWordsUptoRow.holds Try.pinned (OpenSpec.upto fnExactBoundaryWordsSpec)

/-- 'laws.FnExactDepthOfState', WHERE WHAT IT READS IS OF BULK AT MOST 1048576: true; the input reads as it did. -/
def fnExactDepthOfStateUptoRow : OpenClaim := { program := "ytdbdoohcpcjfdaa", sum := "db351c48c431f192481a33712f7d84c68651cddde75dde3991668adcfc8d7c39", func := "loop.example/g01244/laws.FnExactDepthOfState", spec := "fnExactDepthOfState", recurses := true, plainKeys := false, apart := false, narrowed := true }
def FnExactDepthOfStateUptoSaid : Prop := fnExactDepthOfStateUptoRow.holds Try.pinned (OpenSpec.upto fnExactDepthOfStateSpec)

/-- 'laws.FnExactKindOfState', WHERE WHAT IT READS IS OF BULK AT MOST 1048576: true; the input reads as it did. -/
def fnExactKindOfStateUptoRow : OpenClaim := { program := "ytdbdoohcpcjfdaa", sum := "db351c48c431f192481a33712f7d84c68651cddde75dde3991668adcfc8d7c39", func := "loop.example/g01244/laws.FnExactKindOfState", spec := "fnExactKindOfState", unfollowed := true, recurses := true, plainKeys := false, apart := false, narrowed := true }
def FnExactKindOfStateUptoSaid : Prop := fnExactKindOfStateUptoRow.holds Try.pinned (OpenSpec.upto fnExactKindOfStateSpec)

/-- 'laws.FnExactIsBoundedMachine', WHERE WHAT IT READS IS OF BULK AT MOST 1048576: true; the input reads as it did. -/
def fnExactIsBoundedMachineUptoRow : OpenClaim := { program := "ytdbdoohcpcjfdaa", sum := "db351c48c431f192481a33712f7d84c68651cddde75dde3991668adcfc8d7c39", func := "loop.example/g01244/laws.FnExactIsBoundedMachine", spec := "fnExactIsBoundedMachine", unfollowed := true, recurses := true, plainKeys := false, apart := false, narrowed := true }
def FnExactIsBoundedMachineUptoSaid : Prop := fnExactIsBoundedMachineUptoRow.holds Try.pinned (OpenSpec.upto fnExactIsBoundedMachineSpec)

end Rows
end Go.Proofs.Ytdbdoohcpcjfdaa
