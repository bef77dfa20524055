/-
  No cell of these rows narrows 'for every input' (looked for: loops, veiled, ifaces, maps, wideKeys, modest, calm, conditions, laid).
  DERIVED. THE GIVEN ROWS OF THIS SEAT. 6 by the template 'for every input the law returns true; each argument reads behind the call as it read before'; 0 by the template 'total and deterministic' (their statements: YticnpajbefflbabTotals.lean).
  GIVEN WITH THE SEED: the statements are not yours to turn. If you find one false, say at which input.
  Laid BY PROGRAM, IN A SANDBOX (cutbox-rows.mjs): the forced cells as the released guide's own fill.sh prints them over the translation 94a1998e1c96c605… (all of the seat's roots in one cut). By AI agents, Wed Nov 11 2026. No macro, syntax, notation, axiom, sorry.
-/
import Derived.Test.YticnpajbefflbabChecked
import GoSem.Claim
import GoSem.ClaimJoined
import GoSem.ClaimMapViews
import Derived.JoinedTies
import Derived.KernelRfl
namespace Go.Proofs.Yticnpajbefflbab
/- THE CELL 'sum', in the pinned program and in every row, IS THE sha256 OF THE DUMP (.gsa) THAT YticnpajbefflbabProg.lean LOADS. Nothing in Lean hashes anything: it is a label: what it is worth is what the hold of that sum in a sandbox is worth. -/
noncomputable def Try.pinned : Pinned := { name := "yticnpajbefflbab", sum := "94a1998e1c96c6052e156bcbb294a2004daccebaf2a18cdfc636e0b3716e21ee", checked := Try.checked }
namespace Rows
def none {H : Type} : Left H := { results := [], args := [] }

/-- 'laws.FnExactLevelOrbits': WHATEVER THE INPUT: true; the input reads as it did. -/
def fnExactLevelOrbitsSpec : ChangeSpec := { name := "fnExactLevelOrbits", fn := fun _ => fun
  | [d1, d2] => { results := [.lit (.bool true)], args := [d1, d2] }
  | _ => none }
def fnExactLevelOrbitsRow : OpenClaim := { program := "yticnpajbefflbab", sum := "94a1998e1c96c6052e156bcbb294a2004daccebaf2a18cdfc636e0b3716e21ee", func := "loop.example/g01244/laws.FnExactLevelOrbits", spec := "fnExactLevelOrbits", recurses := true, apart := false }
def FnExactLevelOrbitsSaid : Prop := fnExactLevelOrbitsRow.holds Try.pinned (OpenSpec.ofChange fnExactLevelOrbitsSpec)

/-- ITS FALSE NEIGHBOUR: 'it returns false'. Refute it at one input. -/
def fnExactLevelOrbitsWrong : ChangeSpec := { name := "fnExactLevelOrbits", fn := fun _ => fun
  | [d1, d2] => { results := [.lit (.bool false)], args := [d1, d2] }
  | _ => none }
def FnExactLevelOrbitsWrongFalsely : Prop := fnExactLevelOrbitsRow.holds Try.pinned (OpenSpec.ofChange fnExactLevelOrbitsWrong)

/-- 'laws.FnExactIsTransitiveLevel': WHATEVER THE INPUT: true; the input reads as it did. -/
def fnExactIsTransitiveLevelSpec : ChangeSpec := { name := "fnExactIsTransitiveLevel", fn := fun _ => fun
  | [d1, d2] => { results := [.lit (.bool true)], args := [d1, d2] }
  | _ => none }
def fnExactIsTransitiveLevelRow : OpenClaim := { program := "yticnpajbefflbab", sum := "94a1998e1c96c6052e156bcbb294a2004daccebaf2a18cdfc636e0b3716e21ee", func := "loop.example/g01244/laws.FnExactIsTransitiveLevel", spec := "fnExactIsTransitiveLevel", recurses := true, apart := false }
def FnExactIsTransitiveLevelSaid : Prop := fnExactIsTransitiveLevelRow.holds Try.pinned (OpenSpec.ofChange fnExactIsTransitiveLevelSpec)

/-- ITS FALSE NEIGHBOUR: 'it returns false'. Refute it at one input. -/
def fnExactIsTransitiveLevelWrong : ChangeSpec := { name := "fnExactIsTransitiveLevel", fn := fun _ => fun
  | [d1, d2] => { results := [.lit (.bool false)], args := [d1, d2] }
  | _ => none }
def FnExactIsTransitiveLevelWrongFalsely : Prop := fnExactIsTransitiveLevelRow.holds Try.pinned (OpenSpec.ofChange fnExactIsTransitiveLevelWrong)

/-- 'laws.FnExactDistancesFrom': WHATEVER THE INPUT: true; the input reads as it did. -/
def fnExactDistancesFromSpec : ChangeSpec := { name := "fnExactDistancesFrom", fn := fun _ => fun
  | [d1, d2, d3] => { results := [.lit (.bool true)], args := [d1, d2, d3] }
  | _ => none }
def fnExactDistancesFromRow : OpenClaim := { program := "yticnpajbefflbab", sum := "94a1998e1c96c6052e156bcbb294a2004daccebaf2a18cdfc636e0b3716e21ee", func := "loop.example/g01244/laws.FnExactDistancesFrom", spec := "fnExactDistancesFrom", recurses := true, apart := false }
def FnExactDistancesFromSaid : Prop := fnExactDistancesFromRow.holds Try.pinned (OpenSpec.ofChange fnExactDistancesFromSpec)

/-- ITS FALSE NEIGHBOUR: 'it returns false'. Refute it at one input. -/
def fnExactDistancesFromWrong : ChangeSpec := { name := "fnExactDistancesFrom", fn := fun _ => fun
  | [d1, d2, d3] => { results := [.lit (.bool false)], args := [d1, d2, d3] }
  | _ => none }
def FnExactDistancesFromWrongFalsely : Prop := fnExactDistancesFromRow.holds Try.pinned (OpenSpec.ofChange fnExactDistancesFromWrong)

/-- 'laws.FnExactDiameterOf': WHATEVER THE INPUT: true; the input reads as it did. -/
def fnExactDiameterOfSpec : ChangeSpec := { name := "fnExactDiameterOf", fn := fun _ => fun
  | [d1, d2] => { results := [.lit (.bool true)], args := [d1, d2] }
  | _ => none }
def fnExactDiameterOfRow : OpenClaim := { program := "yticnpajbefflbab", sum := "94a1998e1c96c6052e156bcbb294a2004daccebaf2a18cdfc636e0b3716e21ee", func := "loop.example/g01244/laws.FnExactDiameterOf", spec := "fnExactDiameterOf", recurses := true, apart := false }
def FnExactDiameterOfSaid : Prop := fnExactDiameterOfRow.holds Try.pinned (OpenSpec.ofChange fnExactDiameterOfSpec)

/-- ITS FALSE NEIGHBOUR: 'it returns false'. Refute it at one input. -/
def fnExactDiameterOfWrong : ChangeSpec := { name := "fnExactDiameterOf", fn := fun _ => fun
  | [d1, d2] => { results := [.lit (.bool false)], args := [d1, d2] }
  | _ => none }
def FnExactDiameterOfWrongFalsely : Prop := fnExactDiameterOfRow.holds Try.pinned (OpenSpec.ofChange fnExactDiameterOfWrong)

/-- 'laws.FnExactWayTo': WHATEVER THE INPUT: true; the input reads as it did. -/
def fnExactWayToSpec : ChangeSpec := { name := "fnExactWayTo", fn := fun _ => fun
  | [d1, d2, d3, d4] => { results := [.lit (.bool true)], args := [d1, d2, d3, d4] }
  | _ => none }
def fnExactWayToRow : OpenClaim := { program := "yticnpajbefflbab", sum := "94a1998e1c96c6052e156bcbb294a2004daccebaf2a18cdfc636e0b3716e21ee", func := "loop.example/g01244/laws.FnExactWayTo", spec := "fnExactWayTo", recurses := true, apart := false }
def FnExactWayToSaid : Prop := fnExactWayToRow.holds Try.pinned (OpenSpec.ofChange fnExactWayToSpec)

/-- ITS FALSE NEIGHBOUR: 'it returns false'. Refute it at one input. -/
def fnExactWayToWrong : ChangeSpec := { name := "fnExactWayTo", fn := fun _ => fun
  | [d1, d2, d3, d4] => { results := [.lit (.bool false)], args := [d1, d2, d3, d4] }
  | _ => none }
def FnExactWayToWrongFalsely : Prop := fnExactWayToRow.holds Try.pinned (OpenSpec.ofChange fnExactWayToWrong)

/-- 'laws.FnExactLoopsOf': WHATEVER THE INPUT: true; the input reads as it did. -/
def fnExactLoopsOfSpec : ChangeSpec := { name := "fnExactLoopsOf", fn := fun _ => fun
  | [d1, d2, d3] => { results := [.lit (.bool true)], args := [d1, d2, d3] }
  | _ => none }
def fnExactLoopsOfRow : OpenClaim := { program := "yticnpajbefflbab", sum := "94a1998e1c96c6052e156bcbb294a2004daccebaf2a18cdfc636e0b3716e21ee", func := "loop.example/g01244/laws.FnExactLoopsOf", spec := "fnExactLoopsOf", recurses := true, apart := false }
def FnExactLoopsOfSaid : Prop := fnExactLoopsOfRow.holds Try.pinned (OpenSpec.ofChange fnExactLoopsOfSpec)

/-- ITS FALSE NEIGHBOUR: 'it returns false'. Refute it at one input. -/
def fnExactLoopsOfWrong : ChangeSpec := { name := "fnExactLoopsOf", fn := fun _ => fun
  | [d1, d2, d3] => { results := [.lit (.bool false)], args := [d1, d2, d3] }
  | _ => none }
def FnExactLoopsOfWrongFalsely : Prop := fnExactLoopsOfRow.holds Try.pinned (OpenSpec.ofChange fnExactLoopsOfWrong)

/- THE SECOND FORM. 'bulk': how many values and letters a reading holds, each counted each time it is reached (what is shared counts as often as it is met; a slice's spare places count too). A statement '..UptoSaid' is the law's where the arguments, and the package variables that the reading takes, are together of bulk at most 1048576: NARROWER than '..Said'. Prove '..Said' where nothing that the law and all that it calls make is longer than what came in: it says more and counts as full. Else prove '..UptoSaid'. A law counts once. -/
mutual
def uptoBulk {H : Type} : DataW H → Nat
  | .lit (.string bytes) => bytes.length + 1
  | .lit _ => 1
  | .nil => 1
  | .ptr d => uptoBulk d + 1
  | .slice elems spare => uptoBulkAll elems + uptoBulkAll spare + 1
  | .agg parts => uptoBulkAll parts + 1
  | .iface _ d => uptoBulk d + 1
  | .map entries => uptoBulkEntries entries + 1
  | .held _ => 1
def uptoBulkAll {H : Type} : List (DataW H) → Nat
  | [] => 0
  | d :: r => uptoBulk d + uptoBulkAll r
def uptoBulkEntries {H : Type} : List (Lit × DataW H) → Nat
  | [] => 0
  | x :: r => uptoBulkEntry x + uptoBulkEntries r
def uptoBulkEntry {H : Type} : Lit × DataW H → Nat
  | (.string bytes, d) => bytes.length + uptoBulk d + 1
  | (_, d) => uptoBulk d + 1
 end
def uptoSmall : (H : Type) → List (DataW H) → Bool := fun _ ds => decide (uptoBulkAll ds ≤ 1048576)
def OpenSpec.upto (s : _root_.Go.ChangeSpec) : _root_.Go.OpenSpec := { _root_.Go.OpenSpec.ofChange s with cond := some uptoSmall }

/-- 'laws.FnExactLevelOrbits', WHERE WHAT IT READS IS OF BULK AT MOST 1048576: true; the input reads as it did. -/
def fnExactLevelOrbitsUptoRow : OpenClaim := { program := "yticnpajbefflbab", sum := "94a1998e1c96c6052e156bcbb294a2004daccebaf2a18cdfc636e0b3716e21ee", func := "loop.example/g01244/laws.FnExactLevelOrbits", spec := "fnExactLevelOrbits", recurses := true, apart := false, narrowed := true }
def FnExactLevelOrbitsUptoSaid : Prop := fnExactLevelOrbitsUptoRow.holds Try.pinned (OpenSpec.upto fnExactLevelOrbitsSpec)

/-- 'laws.FnExactIsTransitiveLevel', WHERE WHAT IT READS IS OF BULK AT MOST 1048576: true; the input reads as it did. -/
def fnExactIsTransitiveLevelUptoRow : OpenClaim := { program := "yticnpajbefflbab", sum := "94a1998e1c96c6052e156bcbb294a2004daccebaf2a18cdfc636e0b3716e21ee", func := "loop.example/g01244/laws.FnExactIsTransitiveLevel", spec := "fnExactIsTransitiveLevel", recurses := true, apart := false, narrowed := true }
def FnExactIsTransitiveLevelUptoSaid : Prop := fnExactIsTransitiveLevelUptoRow.holds Try.pinned (OpenSpec.upto fnExactIsTransitiveLevelSpec)

/-- 'laws.FnExactDistancesFrom', WHERE WHAT IT READS IS OF BULK AT MOST 1048576: true; the input reads as it did. -/
def fnExactDistancesFromUptoRow : OpenClaim := { program := "yticnpajbefflbab", sum := "94a1998e1c96c6052e156bcbb294a2004daccebaf2a18cdfc636e0b3716e21ee", func := "loop.example/g01244/laws.FnExactDistancesFrom", spec := "fnExactDistancesFrom", recurses := true, apart := false, narrowed := true }
def FnExactDistancesFromUptoSaid : Prop := fnExactDistancesFromUptoRow.holds Try.pinned (OpenSpec.upto fnExactDistancesFromSpec)

/-- 'laws.FnExactDiameterOf', WHERE WHAT IT READS IS OF BULK AT MOST 1048576: true; the input reads as it did. -/
def fnExactDiameterOfUptoRow : OpenClaim := { program := "yticnpajbefflbab", sum := "94a1998e1c96c6052e156bcbb294a2004daccebaf2a18cdfc636e0b3716e21ee", func := "loop.example/g01244/laws.FnExactDiameterOf", spec := "fnExactDiameterOf", recurses := true, apart := false, narrowed := true }
def FnExactDiameterOfUptoSaid : Prop := fnExactDiameterOfUptoRow.holds Try.pinned (OpenSpec.upto fnExactDiameterOfSpec)

/-- 'laws.FnExactWayTo', WHERE WHAT IT READS IS OF BULK AT MOST 1048576: true; the input reads as it did. -/
def fnExactWayToUptoRow : OpenClaim := { program := "yticnpajbefflbab", sum := "94a1998e1c96c6052e156bcbb294a2004daccebaf2a18cdfc636e0b3716e21ee", func := "loop.example/g01244/laws.FnExactWayTo", spec := "fnExactWayTo", recurses := true, apart := false, narrowed := true }
def FnExactWayToUptoSaid : Prop := fnExactWayToUptoRow.holds Try.pinned (OpenSpec.upto fnExactWayToSpec)

/-- 'laws.FnExactLoopsOf', WHERE WHAT IT READS IS OF BULK AT MOST 1048576: true; the input reads as it did. -/
def fnExactLoopsOfUptoRow : OpenClaim := { program := "yticnpajbefflbab", sum := "94a1998e1c96c6052e156bcbb294a2004daccebaf2a18cdfc636e0b3716e21ee", func := "loop.example/g01244/laws.FnExactLoopsOf", spec := "fnExactLoopsOf", recurses := true, apart := false, narrowed := true }
def FnExactLoopsOfUptoSaid : Prop := fnExactLoopsOfUptoRow.holds Try.pinned (OpenSpec.upto fnExactLoopsOfSpec)

end Rows
end Go.Proofs.Yticnpajbefflbab
