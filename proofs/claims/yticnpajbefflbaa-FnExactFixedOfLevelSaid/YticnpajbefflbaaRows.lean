/-
  No cell of these rows narrows 'for every input' (looked for: loops, veiled, ifaces, maps, wideKeys, modest, calm, conditions, laid).
  DERIVED. THE GIVEN ROWS OF THIS SEAT. 6 by the template 'for every input the law returns true; each argument reads behind the call as it read before'; 0 by the template 'total and deterministic' (their statements: YticnpajbefflbaaTotals.lean).
  GIVEN WITH THE SEED: the statements are not yours to turn. If you find one false, say at which input.
  Laid BY PROGRAM, IN A SANDBOX (cutbox-rows.mjs): the forced cells as the released guide's own fill.sh prints them over the translation 409bfffc76afeebf… (all of the seat's roots in one cut). By AI agents, Wed Nov 11 2026. No macro, syntax, notation, axiom, sorry.
-/
import Derived.Test.YticnpajbefflbaaChecked
import GoSem.Claim
import GoSem.ClaimJoined
import GoSem.ClaimMapViews
import Derived.JoinedTies
import Derived.KernelRfl
namespace Go.Proofs.Yticnpajbefflbaa
/- THE CELL 'sum', in the pinned program and in every row, IS THE sha256 OF THE DUMP (.gsa) THAT YticnpajbefflbaaProg.lean LOADS. Nothing in Lean hashes anything: it is a label: what it is worth is what the hold of that sum in a sandbox is worth. -/
noncomputable def Try.pinned : Pinned := { name := "yticnpajbefflbaa", sum := "409bfffc76afeebf746284506da9bd765b70db05b1c995b790d535d14b283933", checked := Try.checked }
namespace Rows
def none {H : Type} : Left H := { results := [], args := [] }

/-- 'laws.FnExactOrderOnLevel': WHATEVER THE INPUT: true; the input reads as it did. -/
def fnExactOrderOnLevelSpec : ChangeSpec := { name := "fnExactOrderOnLevel", fn := fun _ => fun
  | [d1, d2, d3] => { results := [.lit (.bool true)], args := [d1, d2, d3] }
  | _ => none }
def fnExactOrderOnLevelRow : OpenClaim := { program := "yticnpajbefflbaa", sum := "409bfffc76afeebf746284506da9bd765b70db05b1c995b790d535d14b283933", func := "loop.example/g01244/laws.FnExactOrderOnLevel", spec := "fnExactOrderOnLevel", unfollowed := true, recurses := true, apart := false }
def FnExactOrderOnLevelSaid : Prop := fnExactOrderOnLevelRow.holds Try.pinned (OpenSpec.ofChange fnExactOrderOnLevelSpec)

/-- ITS FALSE NEIGHBOUR: 'it returns false'. Refute it at one input. -/
def fnExactOrderOnLevelWrong : ChangeSpec := { name := "fnExactOrderOnLevel", fn := fun _ => fun
  | [d1, d2, d3] => { results := [.lit (.bool false)], args := [d1, d2, d3] }
  | _ => none }
def FnExactOrderOnLevelWrongFalsely : Prop := fnExactOrderOnLevelRow.holds Try.pinned (OpenSpec.ofChange fnExactOrderOnLevelWrong)

/-- 'laws.FnExactFixedOfLevel': WHATEVER THE INPUT: true; the input reads as it did. -/
def fnExactFixedOfLevelSpec : ChangeSpec := { name := "fnExactFixedOfLevel", fn := fun _ => fun
  | [d1, d2, d3] => { results := [.lit (.bool true)], args := [d1, d2, d3] }
  | _ => none }
def fnExactFixedOfLevelRow : OpenClaim := { program := "yticnpajbefflbaa", sum := "409bfffc76afeebf746284506da9bd765b70db05b1c995b790d535d14b283933", func := "loop.example/g01244/laws.FnExactFixedOfLevel", spec := "fnExactFixedOfLevel", unfollowed := true, recurses := true, apart := false }
def FnExactFixedOfLevelSaid : Prop := fnExactFixedOfLevelRow.holds Try.pinned (OpenSpec.ofChange fnExactFixedOfLevelSpec)

/-- ITS FALSE NEIGHBOUR: 'it returns false'. Refute it at one input. -/
def fnExactFixedOfLevelWrong : ChangeSpec := { name := "fnExactFixedOfLevel", fn := fun _ => fun
  | [d1, d2, d3] => { results := [.lit (.bool false)], args := [d1, d2, d3] }
  | _ => none }
def FnExactFixedOfLevelWrongFalsely : Prop := fnExactFixedOfLevelRow.holds Try.pinned (OpenSpec.ofChange fnExactFixedOfLevelWrong)

/-- 'laws.FnExactPeriodOfWord': WHATEVER THE INPUT: true; the input reads as it did. -/
def fnExactPeriodOfWordSpec : ChangeSpec := { name := "fnExactPeriodOfWord", fn := fun _ => fun
  | [d1, d2, d3] => { results := [.lit (.bool true)], args := [d1, d2, d3] }
  | _ => none }
def fnExactPeriodOfWordRow : OpenClaim := { program := "yticnpajbefflbaa", sum := "409bfffc76afeebf746284506da9bd765b70db05b1c995b790d535d14b283933", func := "loop.example/g01244/laws.FnExactPeriodOfWord", spec := "fnExactPeriodOfWord", unfollowed := true, recurses := true, apart := false }
def FnExactPeriodOfWordSaid : Prop := fnExactPeriodOfWordRow.holds Try.pinned (OpenSpec.ofChange fnExactPeriodOfWordSpec)

/-- ITS FALSE NEIGHBOUR: 'it returns false'. Refute it at one input. -/
def fnExactPeriodOfWordWrong : ChangeSpec := { name := "fnExactPeriodOfWord", fn := fun _ => fun
  | [d1, d2, d3] => { results := [.lit (.bool false)], args := [d1, d2, d3] }
  | _ => none }
def FnExactPeriodOfWordWrongFalsely : Prop := fnExactPeriodOfWordRow.holds Try.pinned (OpenSpec.ofChange fnExactPeriodOfWordWrong)

/-- 'laws.FnExactCycleType': WHATEVER THE INPUT: true; the input reads as it did. -/
def fnExactCycleTypeSpec : ChangeSpec := { name := "fnExactCycleType", fn := fun _ => fun
  | [d1, d2, d3] => { results := [.lit (.bool true)], args := [d1, d2, d3] }
  | _ => none }
def fnExactCycleTypeRow : OpenClaim := { program := "yticnpajbefflbaa", sum := "409bfffc76afeebf746284506da9bd765b70db05b1c995b790d535d14b283933", func := "loop.example/g01244/laws.FnExactCycleType", spec := "fnExactCycleType", recurses := true, apart := false }
def FnExactCycleTypeSaid : Prop := fnExactCycleTypeRow.holds Try.pinned (OpenSpec.ofChange fnExactCycleTypeSpec)

/-- ITS FALSE NEIGHBOUR: 'it returns false'. Refute it at one input. -/
def fnExactCycleTypeWrong : ChangeSpec := { name := "fnExactCycleType", fn := fun _ => fun
  | [d1, d2, d3] => { results := [.lit (.bool false)], args := [d1, d2, d3] }
  | _ => none }
def FnExactCycleTypeWrongFalsely : Prop := fnExactCycleTypeRow.holds Try.pinned (OpenSpec.ofChange fnExactCycleTypeWrong)

/-- 'laws.FnExactTurnsLevel': WHATEVER THE INPUT: true; the input reads as it did. -/
def fnExactTurnsLevelSpec : ChangeSpec := { name := "fnExactTurnsLevel", fn := fun _ => fun
  | [d1, d2, d3] => { results := [.lit (.bool true)], args := [d1, d2, d3] }
  | _ => none }
def fnExactTurnsLevelRow : OpenClaim := { program := "yticnpajbefflbaa", sum := "409bfffc76afeebf746284506da9bd765b70db05b1c995b790d535d14b283933", func := "loop.example/g01244/laws.FnExactTurnsLevel", spec := "fnExactTurnsLevel", recurses := true, apart := false }
def FnExactTurnsLevelSaid : Prop := fnExactTurnsLevelRow.holds Try.pinned (OpenSpec.ofChange fnExactTurnsLevelSpec)

/-- ITS FALSE NEIGHBOUR: 'it returns false'. Refute it at one input. -/
def fnExactTurnsLevelWrong : ChangeSpec := { name := "fnExactTurnsLevel", fn := fun _ => fun
  | [d1, d2, d3] => { results := [.lit (.bool false)], args := [d1, d2, d3] }
  | _ => none }
def FnExactTurnsLevelWrongFalsely : Prop := fnExactTurnsLevelRow.holds Try.pinned (OpenSpec.ofChange fnExactTurnsLevelWrong)

/-- 'laws.FnExactLevelEdges': WHATEVER THE INPUT: true; the input reads as it did. -/
def fnExactLevelEdgesSpec : ChangeSpec := { name := "fnExactLevelEdges", fn := fun _ => fun
  | [d1, d2] => { results := [.lit (.bool true)], args := [d1, d2] }
  | _ => none }
def fnExactLevelEdgesRow : OpenClaim := { program := "yticnpajbefflbaa", sum := "409bfffc76afeebf746284506da9bd765b70db05b1c995b790d535d14b283933", func := "loop.example/g01244/laws.FnExactLevelEdges", spec := "fnExactLevelEdges", recurses := true, apart := false }
def FnExactLevelEdgesSaid : Prop := fnExactLevelEdgesRow.holds Try.pinned (OpenSpec.ofChange fnExactLevelEdgesSpec)

/-- ITS FALSE NEIGHBOUR: 'it returns false'. Refute it at one input. -/
def fnExactLevelEdgesWrong : ChangeSpec := { name := "fnExactLevelEdges", fn := fun _ => fun
  | [d1, d2] => { results := [.lit (.bool false)], args := [d1, d2] }
  | _ => none }
def FnExactLevelEdgesWrongFalsely : Prop := fnExactLevelEdgesRow.holds Try.pinned (OpenSpec.ofChange fnExactLevelEdgesWrong)

/- THE SECOND FORM. 'bulk': how many values and letters a reading holds, each counted each time it is reached (what is shared counts as often as it is met; a slice's spare places count too). A statement '..UptoSaid' is the law's where the arguments, and the package variables that the reading takes, are together of bulk at most 1048576: NARROWER than '..Said'. Prove '..Said' where nothing that the law and all that it calls make is longer than what came in: it says more and counts as full. Else prove '..UptoSaid'. A law counts once. -/
mutual
def uptoBulk {H : Type} : DataW H → Nat
  | .lit (.string bytes) => bytes.length + 1
  | .lit _ => 1
  | .nil => 1
  | .ptr d => uptoBulk d + 1
  | .slice elems spare => uptoBulkAll elems + uptoBulkAll spare + 1
  | .agg parts => uptoBulkAll parts + 1
  | .iface _ d => uptoBulk d + 1
  | .map entries => uptoBulkEntries entries + 1
  | .held _ => 1
def uptoBulkAll {H : Type} : List (DataW H) → Nat
  | [] => 0
  | d :: r => uptoBulk d + uptoBulkAll r
def uptoBulkEntries {H : Type} : List (Lit × DataW H) → Nat
  | [] => 0
  | x :: r => uptoBulkEntry x + uptoBulkEntries r
def uptoBulkEntry {H : Type} : Lit × DataW H → Nat
  | (.string bytes, d) => bytes.length + uptoBulk d + 1
  | (_, d) => uptoBulk d + 1
 end
def uptoSmall : (H : Type) → List (DataW H) → Bool := fun _ ds => decide (uptoBulkAll ds ≤ 1048576)
def OpenSpec.upto (s : _root_.Go.ChangeSpec) : _root_.Go.OpenSpec := { _root_.Go.OpenSpec.ofChange s with cond := some uptoSmall }

/-- 'laws.FnExactOrderOnLevel', WHERE WHAT IT READS IS OF BULK AT MOST 1048576: true; the input reads as it did. -/
def fnExactOrderOnLevelUptoRow : OpenClaim := { program := "yticnpajbefflbaa", sum := "409bfffc76afeebf746284506da9bd765b70db05b1c995b790d535d14b283933", func := "loop.example/g01244/laws.FnExactOrderOnLevel", spec := "fnExactOrderOnLevel", unfollowed := true, recurses := true, apart := false, narrowed := true }
def FnExactOrderOnLevelUptoSaid : Prop := fnExactOrderOnLevelUptoRow.holds Try.pinned (OpenSpec.upto fnExactOrderOnLevelSpec)

/-- 'laws.FnExactFixedOfLevel', WHERE WHAT IT READS IS OF BULK AT MOST 1048576: true; the input reads as it did. -/
def fnExactFixedOfLevelUptoRow : OpenClaim := { program := "yticnpajbefflbaa", sum := "409bfffc76afeebf746284506da9bd765b70db05b1c995b790d535d14b283933", func := "loop.example/g01244/laws.FnExactFixedOfLevel", spec := "fnExactFixedOfLevel", unfollowed := true, recurses := true, apart := false, narrowed := true }
def FnExactFixedOfLevelUptoSaid : Prop := fnExactFixedOfLevelUptoRow.holds Try.pinned (OpenSpec.upto fnExactFixedOfLevelSpec)

/-- 'laws.FnExactPeriodOfWord', WHERE WHAT IT READS IS OF BULK AT MOST 1048576: true; the input reads as it did. -/
def fnExactPeriodOfWordUptoRow : OpenClaim := { program := "yticnpajbefflbaa", sum := "409bfffc76afeebf746284506da9bd765b70db05b1c995b790d535d14b283933", func := "loop.example/g01244/laws.FnExactPeriodOfWord", spec := "fnExactPeriodOfWord", unfollowed := true, recurses := true, apart := false, narrowed := true }
def FnExactPeriodOfWordUptoSaid : Prop := fnExactPeriodOfWordUptoRow.holds Try.pinned (OpenSpec.upto fnExactPeriodOfWordSpec)

/-- 'laws.FnExactCycleType', WHERE WHAT IT READS IS OF BULK AT MOST 1048576: true; the input reads as it did. -/
def fnExactCycleTypeUptoRow : OpenClaim := { program := "yticnpajbefflbaa", sum := "409bfffc76afeebf746284506da9bd765b70db05b1c995b790d535d14b283933", func := "loop.example/g01244/laws.FnExactCycleType", spec := "fnExactCycleType", recurses := true, apart := false, narrowed := true }
def FnExactCycleTypeUptoSaid : Prop := fnExactCycleTypeUptoRow.holds Try.pinned (OpenSpec.upto fnExactCycleTypeSpec)

/-- 'laws.FnExactTurnsLevel', WHERE WHAT IT READS IS OF BULK AT MOST 1048576: true; the input reads as it did. -/
def fnExactTurnsLevelUptoRow : OpenClaim := { program := "yticnpajbefflbaa", sum := "409bfffc76afeebf746284506da9bd765b70db05b1c995b790d535d14b283933", func := "loop.example/g01244/laws.FnExactTurnsLevel", spec := "fnExactTurnsLevel", recurses := true, apart := false, narrowed := true }
def FnExactTurnsLevelUptoSaid : Prop := fnExactTurnsLevelUptoRow.holds Try.pinned (OpenSpec.upto fnExactTurnsLevelSpec)

/-- 'laws.FnExactLevelEdges', WHERE WHAT IT READS IS OF BULK AT MOST 1048576: true; the input reads as it did. -/
def fnExactLevelEdgesUptoRow : OpenClaim := { program := "yticnpajbefflbaa", sum := "409bfffc76afeebf746284506da9bd765b70db05b1c995b790d535d14b283933", func := "loop.example/g01244/laws.FnExactLevelEdges", spec := "fnExactLevelEdges", recurses := true, apart := false, narrowed := true }
def FnExactLevelEdgesUptoSaid : Prop := fnExactLevelEdgesUptoRow.holds Try.pinned (OpenSpec.upto fnExactLevelEdgesSpec)

end Rows
end Go.Proofs.Yticnpajbefflbaa
