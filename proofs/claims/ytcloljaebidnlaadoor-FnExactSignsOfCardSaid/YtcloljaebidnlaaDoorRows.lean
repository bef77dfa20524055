/-
  NARROWER THAN 'FOR EVERY INPUT', by the rows' own cells (each row's printed sentence says how): FnExactPermutationNumber: laid · FnExactActPortrait: laid · FnExactSignsOf: laid.
  DERIVED. THE GIVEN ROWS OF THIS SEAT. 3 by the template 'for every input the law returns true; each argument reads behind the call as it read before'; 0 by the template 'total and deterministic' (their statements: YtcloljaebidnlaaDoorTotals.lean).
  GIVEN WITH THE SEED: the statements are not yours to turn. If you find one false, say at which input.
  Laid BY PROGRAM, IN A SANDBOX (cutbox-rows.mjs): the forced cells as the released guide's own fill.sh prints them over the translation 90d3eae8a8b094b8… (all of the seat's roots in one cut). By AI agents, Wed Nov 11 2026. No macro, syntax, notation, axiom, sorry.
-/
import Derived.Test.YtcloljaebidnlaaDoorChecked
import GoSem.Claim
import GoSem.ClaimJoined
import GoSem.ClaimMapViews
import Derived.JoinedTies
import Derived.KernelRfl
namespace Go.Proofs.YtcloljaebidnlaaDoor
/- THE CELL 'sum', in the pinned program and in every row, IS THE sha256 OF THE DUMP (.gsa) THAT YtcloljaebidnlaaDoorProg.lean LOADS. Nothing in Lean hashes anything: it is a label: what it is worth is what the hold of that sum in a sandbox is worth. -/
noncomputable def Tryd.pinned : Pinned := { name := "ytcloljaebidnlaadoor", sum := "90d3eae8a8b094b81ec73346230489b930c7b87c7ed675c729c01c8118e50d2e", checked := Tryd.checked }
namespace Rows
def none {H : Type} : Left H := { results := [], args := [] }

/- WHAT THE LISTED PACKAGE-LEVEL VARIABLES READ AS WHEN THE CALL BEGINS. Each datum BY PROGRAM (the guide's laid-datum.mjs) off the statement by which the dump's own 'gosem.cut.vars' lays the variable. In a bare row this is a premise. The card (YtcloljaebidnlaaDoorCards.lean) ties it to the program's text. -/
def laid_loop_example_g01244_impl_permutationsOfTwo {H : Type} : DataW H := .agg [.agg [.lit (.int .u8 0), .lit (.int .u8 1), .lit (.int .u8 2)], .agg [.lit (.int .u8 1), .lit (.int .u8 0), .lit (.int .u8 2)]]
def laid_loop_example_g01244_impl_permutationsOfThree {H : Type} : DataW H := .agg [.agg [.lit (.int .u8 0), .lit (.int .u8 1), .lit (.int .u8 2)], .agg [.lit (.int .u8 0), .lit (.int .u8 2), .lit (.int .u8 1)], .agg [.lit (.int .u8 1), .lit (.int .u8 0), .lit (.int .u8 2)], .agg [.lit (.int .u8 1), .lit (.int .u8 2), .lit (.int .u8 0)], .agg [.lit (.int .u8 2), .lit (.int .u8 0), .lit (.int .u8 1)], .agg [.lit (.int .u8 2), .lit (.int .u8 1), .lit (.int .u8 0)]]

/-- 'laws.FnExactPermutationNumber': WHATEVER THE INPUT: true; the input reads as it did. -/
def fnExactPermutationNumberSpec : ChangeSpec := { name := "fnExactPermutationNumber", vars := ["loop.example/g01244/impl.permutationsOfTwo", "loop.example/g01244/impl.permutationsOfThree"], fn := fun _ => fun
  | [d, g1, g2] => { results := [.lit (.bool true)], args := [d], vars := [g1, g2] }
  | _ => none }
def fnExactPermutationNumberRow : OpenClaim := { program := "ytcloljaebidnlaadoor", sum := "90d3eae8a8b094b81ec73346230489b930c7b87c7ed675c729c01c8118e50d2e", func := "loop.example/g01244/laws.FnExactPermutationNumber", spec := "fnExactPermutationNumber", named := ["loop.example/g01244/impl.permutationsOfTwo", "loop.example/g01244/impl.permutationsOfThree"], apart := false, laid := [("loop.example/g01244/impl.permutationsOfTwo", laid_loop_example_g01244_impl_permutationsOfTwo), ("loop.example/g01244/impl.permutationsOfThree", laid_loop_example_g01244_impl_permutationsOfThree)] }
def FnExactPermutationNumberSaid : Prop := fnExactPermutationNumberRow.holds Tryd.pinned (OpenSpec.ofChange fnExactPermutationNumberSpec)

/-- ITS FALSE NEIGHBOUR: 'it returns false'. Refute it at one input. -/
def fnExactPermutationNumberWrong : ChangeSpec := { name := "fnExactPermutationNumber", vars := ["loop.example/g01244/impl.permutationsOfTwo", "loop.example/g01244/impl.permutationsOfThree"], fn := fun _ => fun
  | [d, g1, g2] => { results := [.lit (.bool false)], args := [d], vars := [g1, g2] }
  | _ => none }
def FnExactPermutationNumberWrongFalsely : Prop := fnExactPermutationNumberRow.holds Tryd.pinned (OpenSpec.ofChange fnExactPermutationNumberWrong)

/-- 'laws.FnExactActPortrait': WHATEVER THE INPUT: true; the input reads as it did. -/
def fnExactActPortraitSpec : ChangeSpec := { name := "fnExactActPortrait", vars := ["loop.example/g01244/impl.permutationsOfTwo", "loop.example/g01244/impl.permutationsOfThree"], fn := fun _ => fun
  | [d1, d2, d3, d4, g1, g2] => { results := [.lit (.bool true)], args := [d1, d2, d3, d4], vars := [g1, g2] }
  | _ => none }
def fnExactActPortraitRow : OpenClaim := { program := "ytcloljaebidnlaadoor", sum := "90d3eae8a8b094b81ec73346230489b930c7b87c7ed675c729c01c8118e50d2e", func := "loop.example/g01244/laws.FnExactActPortrait", spec := "fnExactActPortrait", named := ["loop.example/g01244/impl.permutationsOfTwo", "loop.example/g01244/impl.permutationsOfThree"], apart := false, laid := [("loop.example/g01244/impl.permutationsOfTwo", laid_loop_example_g01244_impl_permutationsOfTwo), ("loop.example/g01244/impl.permutationsOfThree", laid_loop_example_g01244_impl_permutationsOfThree)] }
def FnExactActPortraitSaid : Prop := fnExactActPortraitRow.holds Tryd.pinned (OpenSpec.ofChange fnExactActPortraitSpec)

/-- ITS FALSE NEIGHBOUR: 'it returns false'. Refute it at one input. -/
def fnExactActPortraitWrong : ChangeSpec := { name := "fnExactActPortrait", vars := ["loop.example/g01244/impl.permutationsOfTwo", "loop.example/g01244/impl.permutationsOfThree"], fn := fun _ => fun
  | [d1, d2, d3, d4, g1, g2] => { results := [.lit (.bool false)], args := [d1, d2, d3, d4], vars := [g1, g2] }
  | _ => none }
def FnExactActPortraitWrongFalsely : Prop := fnExactActPortraitRow.holds Tryd.pinned (OpenSpec.ofChange fnExactActPortraitWrong)

/-- 'laws.FnExactSignsOf': WHATEVER THE INPUT: true; the input reads as it did. -/
def fnExactSignsOfSpec : ChangeSpec := { name := "fnExactSignsOf", vars := ["loop.example/g01244/impl.permutationsOfTwo", "loop.example/g01244/impl.permutationsOfThree"], fn := fun _ => fun
  | [d1, d2, d3, g1, g2] => { results := [.lit (.bool true)], args := [d1, d2, d3], vars := [g1, g2] }
  | _ => none }
def fnExactSignsOfRow : OpenClaim := { program := "ytcloljaebidnlaadoor", sum := "90d3eae8a8b094b81ec73346230489b930c7b87c7ed675c729c01c8118e50d2e", func := "loop.example/g01244/laws.FnExactSignsOf", spec := "fnExactSignsOf", unfollowed := true, recurses := true, named := ["loop.example/g01244/impl.permutationsOfTwo", "loop.example/g01244/impl.permutationsOfThree"], apart := false, laid := [("loop.example/g01244/impl.permutationsOfTwo", laid_loop_example_g01244_impl_permutationsOfTwo), ("loop.example/g01244/impl.permutationsOfThree", laid_loop_example_g01244_impl_permutationsOfThree)] }
def FnExactSignsOfSaid : Prop := fnExactSignsOfRow.holds Tryd.pinned (OpenSpec.ofChange fnExactSignsOfSpec)

/-- ITS FALSE NEIGHBOUR: 'it returns false'. Refute it at one input. -/
def fnExactSignsOfWrong : ChangeSpec := { name := "fnExactSignsOf", vars := ["loop.example/g01244/impl.permutationsOfTwo", "loop.example/g01244/impl.permutationsOfThree"], fn := fun _ => fun
  | [d1, d2, d3, g1, g2] => { results := [.lit (.bool false)], args := [d1, d2, d3], vars := [g1, g2] }
  | _ => none }
def FnExactSignsOfWrongFalsely : Prop := fnExactSignsOfRow.holds Tryd.pinned (OpenSpec.ofChange fnExactSignsOfWrong)

/- THE SECOND FORM. 'bulk': how many values and letters a reading holds, each counted each time it is reached (what is shared counts as often as it is met; a slice's spare places count too). A statement '..UptoSaid' is the law's where the arguments, and the package variables that the reading takes, are together of bulk at most 1048576: NARROWER than '..Said'. Prove '..Said' where nothing that the law and all that it calls make is longer than what came in: it says more and counts as full. Else prove '..UptoSaid'. A law counts once. -/
mutual
def uptoBulk {H : Type} : DataW H → Nat
  | .lit (.string bytes) => bytes.length + 1
  | .lit _ => 1
  | .nil => 1
  | .ptr d => uptoBulk d + 1
  | .slice elems spare => uptoBulkAll elems + uptoBulkAll spare + 1
  | .agg parts => uptoBulkAll parts + 1
  | .iface _ d => uptoBulk d + 1
  | .map entries => uptoBulkEntries entries + 1
  | .held _ => 1
def uptoBulkAll {H : Type} : List (DataW H) → Nat
  | [] => 0
  | d :: r => uptoBulk d + uptoBulkAll r
def uptoBulkEntries {H : Type} : List (Lit × DataW H) → Nat
  | [] => 0
  | x :: r => uptoBulkEntry x + uptoBulkEntries r
def uptoBulkEntry {H : Type} : Lit × DataW H → Nat
  | (.string bytes, d) => bytes.length + uptoBulk d + 1
  | (_, d) => uptoBulk d + 1
 end
def uptoSmall : (H : Type) → List (DataW H) → Bool := fun _ ds => decide (uptoBulkAll ds ≤ 1048576)
def OpenSpec.upto (s : _root_.Go.ChangeSpec) : _root_.Go.OpenSpec := { _root_.Go.OpenSpec.ofChange s with cond := some uptoSmall }

/-- 'laws.FnExactPermutationNumber', WHERE WHAT IT READS IS OF BULK AT MOST 1048576: true; the input reads as it did. -/
def fnExactPermutationNumberUptoRow : OpenClaim := { program := "ytcloljaebidnlaadoor", sum := "90d3eae8a8b094b81ec73346230489b930c7b87c7ed675c729c01c8118e50d2e", func := "loop.example/g01244/laws.FnExactPermutationNumber", spec := "fnExactPermutationNumber", named := ["loop.example/g01244/impl.permutationsOfTwo", "loop.example/g01244/impl.permutationsOfThree"], apart := false, laid := [("loop.example/g01244/impl.permutationsOfTwo", laid_loop_example_g01244_impl_permutationsOfTwo), ("loop.example/g01244/impl.permutationsOfThree", laid_loop_example_g01244_impl_permutationsOfThree)], narrowed := true }
def FnExactPermutationNumberUptoSaid : Prop := fnExactPermutationNumberUptoRow.holds Tryd.pinned (OpenSpec.upto fnExactPermutationNumberSpec)

/-- 'laws.FnExactActPortrait', WHERE WHAT IT READS IS OF BULK AT MOST 1048576: true; the input reads as it did. -/
def fnExactActPortraitUptoRow : OpenClaim := { program := "ytcloljaebidnlaadoor", sum := "90d3eae8a8b094b81ec73346230489b930c7b87c7ed675c729c01c8118e50d2e", func := "loop.example/g01244/laws.FnExactActPortrait", spec := "fnExactActPortrait", named := ["loop.example/g01244/impl.permutationsOfTwo", "loop.example/g01244/impl.permutationsOfThree"], apart := false, laid := [("loop.example/g01244/impl.permutationsOfTwo", laid_loop_example_g01244_impl_permutationsOfTwo), ("loop.example/g01244/impl.permutationsOfThree", laid_loop_example_g01244_impl_permutationsOfThree)], narrowed := true }
def FnExactActPortraitUptoSaid : Prop := fnExactActPortraitUptoRow.holds Tryd.pinned (OpenSpec.upto fnExactActPortraitSpec)

/-- 'laws.FnExactSignsOf', WHERE WHAT IT READS IS OF BULK AT MOST 1048576: true; the input reads as it did. -/
def fnExactSignsOfUptoRow : OpenClaim := { program := "ytcloljaebidnlaadoor", sum := "90d3eae8a8b094b81ec73346230489b930c7b87c7ed675c729c01c8118e50d2e", func := "loop.example/g01244/laws.FnExactSignsOf", spec := "fnExactSignsOf", unfollowed := true, recurses := true, named := ["loop.example/g01244/impl.permutationsOfTwo", "loop.example/g01244/impl.permutationsOfThree"], apart := false, laid := [("loop.example/g01244/impl.permutationsOfTwo", laid_loop_example_g01244_impl_permutationsOfTwo), ("loop.example/g01244/impl.permutationsOfThree", laid_loop_example_g01244_impl_permutationsOfThree)], narrowed := true }
def FnExactSignsOfUptoSaid : Prop := fnExactSignsOfUptoRow.holds Tryd.pinned (OpenSpec.upto fnExactSignsOfSpec)

end Rows
end Go.Proofs.YtcloljaebidnlaaDoor
