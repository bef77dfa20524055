/-
  No cell of these rows narrows 'for every input' (looked for: loops, veiled, ifaces, maps, wideKeys, modest, calm, conditions, laid).
  DERIVED. THE GIVEN ROWS OF THIS SEAT. 6 by the template 'for every input the law returns true; each argument reads behind the call as it read before'; 0 by the template 'total and deterministic' (their statements: YtppmfpgpbdjkdabTotals.lean).
  GIVEN WITH THE SEED: the statements are not yours to turn. If you find one false, say at which input.
  Laid BY PROGRAM, IN A SANDBOX (cutbox-rows.mjs): the forced cells as the released guide's own fill.sh prints them over the translation f86bb67fd0394513… (all of the seat's roots in one cut). By AI agents, Wed Nov 11 2026. No macro, syntax, notation, axiom, sorry.
-/
import Derived.Test.YtppmfpgpbdjkdabChecked
import GoSem.Claim
import GoSem.ClaimJoined
import GoSem.ClaimMapViews
import Derived.JoinedTies
import Derived.KernelRfl
namespace Go.Proofs.Ytppmfpgpbdjkdab
/- THE CELL 'sum', in the pinned program and in every row, IS THE sha256 OF THE DUMP (.gsa) THAT YtppmfpgpbdjkdabProg.lean LOADS. Nothing in Lean hashes anything: it is a label: what it is worth is what the hold of that sum in a sandbox is worth. -/
noncomputable def Try.pinned : Pinned := { name := "ytppmfpgpbdjkdab", sum := "f86bb67fd039451312f4a3bfeaa5eb65fd248ab5c64a99a12d669cbb4d2ca7e8", checked := Try.checked }
namespace Rows
def none {H : Type} : Left H := { results := [], args := [] }

/-- 'laws.FnExactCycleType': WHATEVER THE INPUT: true; the input reads as it did. -/
def fnExactCycleTypeSpec : ChangeSpec := { name := "fnExactCycleType", fn := fun _ => fun
  | [d1, d2, d3] => { results := [.lit (.bool true)], args := [d1, d2, d3] }
  | _ => none }
def fnExactCycleTypeRow : OpenClaim := { program := "ytppmfpgpbdjkdab", sum := "f86bb67fd039451312f4a3bfeaa5eb65fd248ab5c64a99a12d669cbb4d2ca7e8", func := "loop.example/g01244/laws.FnExactCycleType", spec := "fnExactCycleType", recurses := true, apart := false }
def FnExactCycleTypeSaid : Prop := fnExactCycleTypeRow.holds Try.pinned (OpenSpec.ofChange fnExactCycleTypeSpec)

/-- ITS FALSE NEIGHBOUR: 'it returns false'. Refute it at one input. -/
def fnExactCycleTypeWrong : ChangeSpec := { name := "fnExactCycleType", fn := fun _ => fun
  | [d1, d2, d3] => { results := [.lit (.bool false)], args := [d1, d2, d3] }
  | _ => none }
def FnExactCycleTypeWrongFalsely : Prop := fnExactCycleTypeRow.holds Try.pinned (OpenSpec.ofChange fnExactCycleTypeWrong)

/-- 'laws.FnExactTurnsLevel': WHATEVER THE INPUT: true; the input reads as it did. -/
def fnExactTurnsLevelSpec : ChangeSpec := { name := "fnExactTurnsLevel", fn := fun _ => fun
  | [d1, d2, d3] => { results := [.lit (.bool true)], args := [d1, d2, d3] }
  | _ => none }
def fnExactTurnsLevelRow : OpenClaim := { program := "ytppmfpgpbdjkdab", sum := "f86bb67fd039451312f4a3bfeaa5eb65fd248ab5c64a99a12d669cbb4d2ca7e8", func := "loop.example/g01244/laws.FnExactTurnsLevel", spec := "fnExactTurnsLevel", recurses := true, apart := false }
def FnExactTurnsLevelSaid : Prop := fnExactTurnsLevelRow.holds Try.pinned (OpenSpec.ofChange fnExactTurnsLevelSpec)

/-- ITS FALSE NEIGHBOUR: 'it returns false'. Refute it at one input. -/
def fnExactTurnsLevelWrong : ChangeSpec := { name := "fnExactTurnsLevel", fn := fun _ => fun
  | [d1, d2, d3] => { results := [.lit (.bool false)], args := [d1, d2, d3] }
  | _ => none }
def FnExactTurnsLevelWrongFalsely : Prop := fnExactTurnsLevelRow.holds Try.pinned (OpenSpec.ofChange fnExactTurnsLevelWrong)

/-- 'laws.FnExactFixedWords': WHATEVER THE INPUT: true; the input reads as it did. -/
def fnExactFixedWordsSpec : ChangeSpec := { name := "fnExactFixedWords", fn := fun _ => fun
  | [d1, d2] => { results := [.lit (.bool true)], args := [d1, d2] }
  | _ => none }
def fnExactFixedWordsRow : OpenClaim := { program := "ytppmfpgpbdjkdab", sum := "f86bb67fd039451312f4a3bfeaa5eb65fd248ab5c64a99a12d669cbb4d2ca7e8", func := "loop.example/g01244/laws.FnExactFixedWords", spec := "fnExactFixedWords", recurses := true, apart := false }
def FnExactFixedWordsSaid : Prop := fnExactFixedWordsRow.holds Try.pinned (OpenSpec.ofChange fnExactFixedWordsSpec)

/-- ITS FALSE NEIGHBOUR: 'it returns false'. Refute it at one input. -/
def fnExactFixedWordsWrong : ChangeSpec := { name := "fnExactFixedWords", fn := fun _ => fun
  | [d1, d2] => { results := [.lit (.bool false)], args := [d1, d2] }
  | _ => none }
def FnExactFixedWordsWrongFalsely : Prop := fnExactFixedWordsRow.holds Try.pinned (OpenSpec.ofChange fnExactFixedWordsWrong)

/-- 'laws.FnExactLevelEdges': WHATEVER THE INPUT: true; the input reads as it did. -/
def fnExactLevelEdgesSpec : ChangeSpec := { name := "fnExactLevelEdges", fn := fun _ => fun
  | [d1, d2] => { results := [.lit (.bool true)], args := [d1, d2] }
  | _ => none }
def fnExactLevelEdgesRow : OpenClaim := { program := "ytppmfpgpbdjkdab", sum := "f86bb67fd039451312f4a3bfeaa5eb65fd248ab5c64a99a12d669cbb4d2ca7e8", func := "loop.example/g01244/laws.FnExactLevelEdges", spec := "fnExactLevelEdges", recurses := true, apart := false }
def FnExactLevelEdgesSaid : Prop := fnExactLevelEdgesRow.holds Try.pinned (OpenSpec.ofChange fnExactLevelEdgesSpec)

/-- ITS FALSE NEIGHBOUR: 'it returns false'. Refute it at one input. -/
def fnExactLevelEdgesWrong : ChangeSpec := { name := "fnExactLevelEdges", fn := fun _ => fun
  | [d1, d2] => { results := [.lit (.bool false)], args := [d1, d2] }
  | _ => none }
def FnExactLevelEdgesWrongFalsely : Prop := fnExactLevelEdgesRow.holds Try.pinned (OpenSpec.ofChange fnExactLevelEdgesWrong)

/-- 'laws.FnExactLevelOrbits': WHATEVER THE INPUT: true; the input reads as it did. -/
def fnExactLevelOrbitsSpec : ChangeSpec := { name := "fnExactLevelOrbits", fn := fun _ => fun
  | [d1, d2] => { results := [.lit (.bool true)], args := [d1, d2] }
  | _ => none }
def fnExactLevelOrbitsRow : OpenClaim := { program := "ytppmfpgpbdjkdab", sum := "f86bb67fd039451312f4a3bfeaa5eb65fd248ab5c64a99a12d669cbb4d2ca7e8", func := "loop.example/g01244/laws.FnExactLevelOrbits", spec := "fnExactLevelOrbits", recurses := true, apart := false }
def FnExactLevelOrbitsSaid : Prop := fnExactLevelOrbitsRow.holds Try.pinned (OpenSpec.ofChange fnExactLevelOrbitsSpec)

/-- ITS FALSE NEIGHBOUR: 'it returns false'. Refute it at one input. -/
def fnExactLevelOrbitsWrong : ChangeSpec := { name := "fnExactLevelOrbits", fn := fun _ => fun
  | [d1, d2] => { results := [.lit (.bool false)], args := [d1, d2] }
  | _ => none }
def FnExactLevelOrbitsWrongFalsely : Prop := fnExactLevelOrbitsRow.holds Try.pinned (OpenSpec.ofChange fnExactLevelOrbitsWrong)

/-- 'laws.FnExactIsTransitiveLevel': WHATEVER THE INPUT: true; the input reads as it did. -/
def fnExactIsTransitiveLevelSpec : ChangeSpec := { name := "fnExactIsTransitiveLevel", fn := fun _ => fun
  | [d1, d2] => { results := [.lit (.bool true)], args := [d1, d2] }
  | _ => none }
def fnExactIsTransitiveLevelRow : OpenClaim := { program := "ytppmfpgpbdjkdab", sum := "f86bb67fd039451312f4a3bfeaa5eb65fd248ab5c64a99a12d669cbb4d2ca7e8", func := "loop.example/g01244/laws.FnExactIsTransitiveLevel", spec := "fnExactIsTransitiveLevel", recurses := true, apart := false }
def FnExactIsTransitiveLevelSaid : Prop := fnExactIsTransitiveLevelRow.holds Try.pinned (OpenSpec.ofChange fnExactIsTransitiveLevelSpec)

/-- ITS FALSE NEIGHBOUR: 'it returns false'. Refute it at one input. -/
def fnExactIsTransitiveLevelWrong : ChangeSpec := { name := "fnExactIsTransitiveLevel", fn := fun _ => fun
  | [d1, d2] => { results := [.lit (.bool false)], args := [d1, d2] }
  | _ => none }
def FnExactIsTransitiveLevelWrongFalsely : Prop := fnExactIsTransitiveLevelRow.holds Try.pinned (OpenSpec.ofChange fnExactIsTransitiveLevelWrong)

/- THE SECOND FORM. 'bulk': how many values and letters a reading holds, each counted each time it is reached (what is shared counts as often as it is met; a slice's spare places count too). A statement '..UptoSaid' is the law's where the arguments, and the package variables that the reading takes, are together of bulk at most 1048576: NARROWER than '..Said'. Prove '..Said' where nothing that the law and all that it calls make is longer than what came in: it says more and counts as full. Else prove '..UptoSaid'. A law counts once. -/
mutual
def uptoBulk {H : Type} : DataW H → Nat
  | .lit (.string bytes) => bytes.length + 1
  | .lit _ => 1
  | .nil => 1
  | .ptr d => uptoBulk d + 1
  | .slice elems spare => uptoBulkAll elems + uptoBulkAll spare + 1
  | .agg parts => uptoBulkAll parts + 1
  | .iface _ d => uptoBulk d + 1
  | .map entries => uptoBulkEntries entries + 1
  | .held _ => 1
def uptoBulkAll {H : Type} : List (DataW H) → Nat
  | [] => 0
  | d :: r => uptoBulk d + uptoBulkAll r
def uptoBulkEntries {H : Type} : List (Lit × DataW H) → Nat
  | [] => 0
  | x :: r => uptoBulkEntry x + uptoBulkEntries r
def uptoBulkEntry {H : Type} : Lit × DataW H → Nat
  | (.string bytes, d) => bytes.length + uptoBulk d + 1
  | (_, d) => uptoBulk d + 1
 end
def uptoSmall : (H : Type) → List (DataW H) → Bool := fun _ ds => decide (uptoBulkAll ds ≤ 1048576)
def OpenSpec.upto (s : _root_.Go.ChangeSpec) : _root_.Go.OpenSpec := { _root_.Go.OpenSpec.ofChange s with cond := some uptoSmall }

/-- 'laws.FnExactCycleType', WHERE WHAT IT READS IS OF BULK AT MOST 1048576: true; the input reads as it did. -/
def fnExactCycleTypeUptoRow : OpenClaim := { program := "ytppmfpgpbdjkdab", sum := "f86bb67fd039451312f4a3bfeaa5eb65fd248ab5c64a99a12d669cbb4d2ca7e8", func := "loop.example/g01244/laws.FnExactCycleType", spec := "fnExactCycleType", recurses := true, apart := false, narrowed := true }
def FnExactCycleTypeUptoSaid : Prop := fnExactCycleTypeUptoRow.holds Try.pinned (OpenSpec.upto fnExactCycleTypeSpec)

/-- 'laws.FnExactTurnsLevel', WHERE WHAT IT READS IS OF BULK AT MOST 1048576: true; the input reads as it did. -/
def fnExactTurnsLevelUptoRow : OpenClaim := { program := "ytppmfpgpbdjkdab", sum := "f86bb67fd039451312f4a3bfeaa5eb65fd248ab5c64a99a12d669cbb4d2ca7e8", func := "loop.example/g01244/laws.FnExactTurnsLevel", spec := "fnExactTurnsLevel", recurses := true, apart := false, narrowed := true }
def FnExactTurnsLevelUptoSaid : Prop := fnExactTurnsLevelUptoRow.holds Try.pinned (OpenSpec.upto fnExactTurnsLevelSpec)

/-- 'laws.FnExactFixedWords', WHERE WHAT IT READS IS OF BULK AT MOST 1048576: true; the input reads as it did. -/
def fnExactFixedWordsUptoRow : OpenClaim := { program := "ytppmfpgpbdjkdab", sum := "f86bb67fd039451312f4a3bfeaa5eb65fd248ab5c64a99a12d669cbb4d2ca7e8", func := "loop.example/g01244/laws.FnExactFixedWords", spec := "fnExactFixedWords", recurses := true, apart := false, narrowed := true }
def FnExactFixedWordsUptoSaid : Prop := fnExactFixedWordsUptoRow.holds Try.pinned (OpenSpec.upto fnExactFixedWordsSpec)

/-- 'laws.FnExactLevelEdges', WHERE WHAT IT READS IS OF BULK AT MOST 1048576: true; the input reads as it did. -/
def fnExactLevelEdgesUptoRow : OpenClaim := { program := "ytppmfpgpbdjkdab", sum := "f86bb67fd039451312f4a3bfeaa5eb65fd248ab5c64a99a12d669cbb4d2ca7e8", func := "loop.example/g01244/laws.FnExactLevelEdges", spec := "fnExactLevelEdges", recurses := true, apart := false, narrowed := true }
def FnExactLevelEdgesUptoSaid : Prop := fnExactLevelEdgesUptoRow.holds Try.pinned (OpenSpec.upto fnExactLevelEdgesSpec)

/-- 'laws.FnExactLevelOrbits', WHERE WHAT IT READS IS OF BULK AT MOST 1048576: true; the input reads as it did. -/
def fnExactLevelOrbitsUptoRow : OpenClaim := { program := "ytppmfpgpbdjkdab", sum := "f86bb67fd039451312f4a3bfeaa5eb65fd248ab5c64a99a12d669cbb4d2ca7e8", func := "loop.example/g01244/laws.FnExactLevelOrbits", spec := "fnExactLevelOrbits", recurses := true, apart := false, narrowed := true }
def FnExactLevelOrbitsUptoSaid : Prop := fnExactLevelOrbitsUptoRow.holds Try.pinned (OpenSpec.upto fnExactLevelOrbitsSpec)

/-- 'laws.FnExactIsTransitiveLevel', WHERE WHAT IT READS IS OF BULK AT MOST 1048576: true; the input reads as it did. -/
def fnExactIsTransitiveLevelUptoRow : OpenClaim := { program := "ytppmfpgpbdjkdab", sum := "f86bb67fd039451312f4a3bfeaa5eb65fd248ab5c64a99a12d669cbb4d2ca7e8", func := "loop.example/g01244/laws.FnExactIsTransitiveLevel", spec := "fnExactIsTransitiveLevel", recurses := true, apart := false, narrowed := true }
def FnExactIsTransitiveLevelUptoSaid : Prop := fnExactIsTransitiveLevelUptoRow.holds Try.pinned (OpenSpec.upto fnExactIsTransitiveLevelSpec)

end Rows
end Go.Proofs.Ytppmfpgpbdjkdab
