/-
  NARROWER THAN 'FOR EVERY INPUT', by the rows' own cells (each row's printed sentence says how): FnExactPortraitOf: laid · FnExactMultiplyPortraits: laid · FnExactInvertPortrait: laid · FnExactPermutationOfPortrait: laid · FnExactPortraitOfPermutation: laid · FnExactOrderOfPortrait: laid · FnExactIsOneCycle: laid.
  DERIVED. THE GIVEN ROWS OF THIS SEAT. 7 by the template 'for every input the law returns true; each argument reads behind the call as it read before'; 0 by the template 'total and deterministic' (their statements: YtgeihpaealomkaaDoorTotals.lean).
  GIVEN WITH THE SEED: the statements are not yours to turn. If you find one false, say at which input.
  Laid BY PROGRAM, IN A SANDBOX (cutbox-rows.mjs): the forced cells as the released guide's own fill.sh prints them over the translation d9579d70950a4922… (all of the seat's roots in one cut). By AI agents, Wed Nov 11 2026. No macro, syntax, notation, axiom, sorry.
-/
import Derived.Test.YtgeihpaealomkaaDoorChecked
import GoSem.Claim
import GoSem.ClaimJoined
import GoSem.ClaimMapViews
import Derived.JoinedTies
import Derived.KernelRfl
namespace Go.Proofs.YtgeihpaealomkaaDoor
/- THE CELL 'sum', in the pinned program and in every row, IS THE sha256 OF THE DUMP (.gsa) THAT YtgeihpaealomkaaDoorProg.lean LOADS. Nothing in Lean hashes anything: it is a label: what it is worth is what the hold of that sum in a sandbox is worth. -/
noncomputable def Tryd.pinned : Pinned := { name := "ytgeihpaealomkaadoor", sum := "d9579d70950a4922681d20fc5face18a62bb798b0b240d89b60f0fbfd0eafae9", checked := Tryd.checked }
namespace Rows
def none {H : Type} : Left H := { results := [], args := [] }

/- WHAT THE LISTED PACKAGE-LEVEL VARIABLES READ AS WHEN THE CALL BEGINS. Each datum BY PROGRAM (the guide's laid-datum.mjs) off the statement by which the dump's own 'gosem.cut.vars' lays the variable. In a bare row this is a premise. The card (YtgeihpaealomkaaDoorCards.lean) ties it to the program's text. -/
def laid_loop_example_g01244_impl_permutationsOfTwo {H : Type} : DataW H := .agg [.agg [.lit (.int .u8 0), .lit (.int .u8 1), .lit (.int .u8 2)], .agg [.lit (.int .u8 1), .lit (.int .u8 0), .lit (.int .u8 2)]]
def laid_loop_example_g01244_impl_permutationsOfThree {H : Type} : DataW H := .agg [.agg [.lit (.int .u8 0), .lit (.int .u8 1), .lit (.int .u8 2)], .agg [.lit (.int .u8 0), .lit (.int .u8 2), .lit (.int .u8 1)], .agg [.lit (.int .u8 1), .lit (.int .u8 0), .lit (.int .u8 2)], .agg [.lit (.int .u8 1), .lit (.int .u8 2), .lit (.int .u8 0)], .agg [.lit (.int .u8 2), .lit (.int .u8 0), .lit (.int .u8 1)], .agg [.lit (.int .u8 2), .lit (.int .u8 1), .lit (.int .u8 0)]]

/-- 'laws.FnExactPortraitOf': WHATEVER THE INPUT: true; the input reads as it did. -/
def fnExactPortraitOfSpec : ChangeSpec := { name := "fnExactPortraitOf", vars := ["loop.example/g01244/impl.permutationsOfTwo", "loop.example/g01244/impl.permutationsOfThree"], fn := fun _ => fun
  | [d1, d2, d3, g1, g2] => { results := [.lit (.bool true)], args := [d1, d2, d3], vars := [g1, g2] }
  | _ => none }
def fnExactPortraitOfRow : OpenClaim := { program := "ytgeihpaealomkaadoor", sum := "d9579d70950a4922681d20fc5face18a62bb798b0b240d89b60f0fbfd0eafae9", func := "loop.example/g01244/laws.FnExactPortraitOf", spec := "fnExactPortraitOf", unfollowed := true, recurses := true, named := ["loop.example/g01244/impl.permutationsOfTwo", "loop.example/g01244/impl.permutationsOfThree"], apart := false, laid := [("loop.example/g01244/impl.permutationsOfTwo", laid_loop_example_g01244_impl_permutationsOfTwo), ("loop.example/g01244/impl.permutationsOfThree", laid_loop_example_g01244_impl_permutationsOfThree)] }
def FnExactPortraitOfSaid : Prop := fnExactPortraitOfRow.holds Tryd.pinned (OpenSpec.ofChange fnExactPortraitOfSpec)

/-- ITS FALSE NEIGHBOUR: 'it returns false'. Refute it at one input. -/
def fnExactPortraitOfWrong : ChangeSpec := { name := "fnExactPortraitOf", vars := ["loop.example/g01244/impl.permutationsOfTwo", "loop.example/g01244/impl.permutationsOfThree"], fn := fun _ => fun
  | [d1, d2, d3, g1, g2] => { results := [.lit (.bool false)], args := [d1, d2, d3], vars := [g1, g2] }
  | _ => none }
def FnExactPortraitOfWrongFalsely : Prop := fnExactPortraitOfRow.holds Tryd.pinned (OpenSpec.ofChange fnExactPortraitOfWrong)

/-- 'laws.FnExactMultiplyPortraits': WHATEVER THE INPUT: true; the input reads as it did. -/
def fnExactMultiplyPortraitsSpec : ChangeSpec := { name := "fnExactMultiplyPortraits", vars := ["loop.example/g01244/impl.permutationsOfTwo", "loop.example/g01244/impl.permutationsOfThree"], fn := fun _ => fun
  | [d1, d2, d3, d4, g1, g2] => { results := [.lit (.bool true)], args := [d1, d2, d3, d4], vars := [g1, g2] }
  | _ => none }
def fnExactMultiplyPortraitsRow : OpenClaim := { program := "ytgeihpaealomkaadoor", sum := "d9579d70950a4922681d20fc5face18a62bb798b0b240d89b60f0fbfd0eafae9", func := "loop.example/g01244/laws.FnExactMultiplyPortraits", spec := "fnExactMultiplyPortraits", unfollowed := true, recurses := true, named := ["loop.example/g01244/impl.permutationsOfTwo", "loop.example/g01244/impl.permutationsOfThree"], apart := false, laid := [("loop.example/g01244/impl.permutationsOfTwo", laid_loop_example_g01244_impl_permutationsOfTwo), ("loop.example/g01244/impl.permutationsOfThree", laid_loop_example_g01244_impl_permutationsOfThree)] }
def FnExactMultiplyPortraitsSaid : Prop := fnExactMultiplyPortraitsRow.holds Tryd.pinned (OpenSpec.ofChange fnExactMultiplyPortraitsSpec)

/-- ITS FALSE NEIGHBOUR: 'it returns false'. Refute it at one input. -/
def fnExactMultiplyPortraitsWrong : ChangeSpec := { name := "fnExactMultiplyPortraits", vars := ["loop.example/g01244/impl.permutationsOfTwo", "loop.example/g01244/impl.permutationsOfThree"], fn := fun _ => fun
  | [d1, d2, d3, d4, g1, g2] => { results := [.lit (.bool false)], args := [d1, d2, d3, d4], vars := [g1, g2] }
  | _ => none }
def FnExactMultiplyPortraitsWrongFalsely : Prop := fnExactMultiplyPortraitsRow.holds Tryd.pinned (OpenSpec.ofChange fnExactMultiplyPortraitsWrong)

/-- 'laws.FnExactInvertPortrait': WHATEVER THE INPUT: true; the input reads as it did. -/
def fnExactInvertPortraitSpec : ChangeSpec := { name := "fnExactInvertPortrait", vars := ["loop.example/g01244/impl.permutationsOfTwo", "loop.example/g01244/impl.permutationsOfThree"], fn := fun _ => fun
  | [d1, d2, d3, g1, g2] => { results := [.lit (.bool true)], args := [d1, d2, d3], vars := [g1, g2] }
  | _ => none }
def fnExactInvertPortraitRow : OpenClaim := { program := "ytgeihpaealomkaadoor", sum := "d9579d70950a4922681d20fc5face18a62bb798b0b240d89b60f0fbfd0eafae9", func := "loop.example/g01244/laws.FnExactInvertPortrait", spec := "fnExactInvertPortrait", unfollowed := true, recurses := true, named := ["loop.example/g01244/impl.permutationsOfTwo", "loop.example/g01244/impl.permutationsOfThree"], apart := false, laid := [("loop.example/g01244/impl.permutationsOfTwo", laid_loop_example_g01244_impl_permutationsOfTwo), ("loop.example/g01244/impl.permutationsOfThree", laid_loop_example_g01244_impl_permutationsOfThree)] }
def FnExactInvertPortraitSaid : Prop := fnExactInvertPortraitRow.holds Tryd.pinned (OpenSpec.ofChange fnExactInvertPortraitSpec)

/-- ITS FALSE NEIGHBOUR: 'it returns false'. Refute it at one input. -/
def fnExactInvertPortraitWrong : ChangeSpec := { name := "fnExactInvertPortrait", vars := ["loop.example/g01244/impl.permutationsOfTwo", "loop.example/g01244/impl.permutationsOfThree"], fn := fun _ => fun
  | [d1, d2, d3, g1, g2] => { results := [.lit (.bool false)], args := [d1, d2, d3], vars := [g1, g2] }
  | _ => none }
def FnExactInvertPortraitWrongFalsely : Prop := fnExactInvertPortraitRow.holds Tryd.pinned (OpenSpec.ofChange fnExactInvertPortraitWrong)

/-- 'laws.FnExactPermutationOfPortrait': WHATEVER THE INPUT: true; the input reads as it did. -/
def fnExactPermutationOfPortraitSpec : ChangeSpec := { name := "fnExactPermutationOfPortrait", vars := ["loop.example/g01244/impl.permutationsOfTwo", "loop.example/g01244/impl.permutationsOfThree"], fn := fun _ => fun
  | [d1, d2, d3, g1, g2] => { results := [.lit (.bool true)], args := [d1, d2, d3], vars := [g1, g2] }
  | _ => none }
def fnExactPermutationOfPortraitRow : OpenClaim := { program := "ytgeihpaealomkaadoor", sum := "d9579d70950a4922681d20fc5face18a62bb798b0b240d89b60f0fbfd0eafae9", func := "loop.example/g01244/laws.FnExactPermutationOfPortrait", spec := "fnExactPermutationOfPortrait", unfollowed := true, recurses := true, named := ["loop.example/g01244/impl.permutationsOfTwo", "loop.example/g01244/impl.permutationsOfThree"], apart := false, laid := [("loop.example/g01244/impl.permutationsOfTwo", laid_loop_example_g01244_impl_permutationsOfTwo), ("loop.example/g01244/impl.permutationsOfThree", laid_loop_example_g01244_impl_permutationsOfThree)] }
def FnExactPermutationOfPortraitSaid : Prop := fnExactPermutationOfPortraitRow.holds Tryd.pinned (OpenSpec.ofChange fnExactPermutationOfPortraitSpec)

/-- ITS FALSE NEIGHBOUR: 'it returns false'. Refute it at one input. -/
def fnExactPermutationOfPortraitWrong : ChangeSpec := { name := "fnExactPermutationOfPortrait", vars := ["loop.example/g01244/impl.permutationsOfTwo", "loop.example/g01244/impl.permutationsOfThree"], fn := fun _ => fun
  | [d1, d2, d3, g1, g2] => { results := [.lit (.bool false)], args := [d1, d2, d3], vars := [g1, g2] }
  | _ => none }
def FnExactPermutationOfPortraitWrongFalsely : Prop := fnExactPermutationOfPortraitRow.holds Tryd.pinned (OpenSpec.ofChange fnExactPermutationOfPortraitWrong)

/-- 'laws.FnExactPortraitOfPermutation': WHATEVER THE INPUT: true; the input reads as it did. -/
def fnExactPortraitOfPermutationSpec : ChangeSpec := { name := "fnExactPortraitOfPermutation", vars := ["loop.example/g01244/impl.permutationsOfTwo", "loop.example/g01244/impl.permutationsOfThree"], fn := fun _ => fun
  | [d1, d2, d3, g1, g2] => { results := [.lit (.bool true)], args := [d1, d2, d3], vars := [g1, g2] }
  | _ => none }
def fnExactPortraitOfPermutationRow : OpenClaim := { program := "ytgeihpaealomkaadoor", sum := "d9579d70950a4922681d20fc5face18a62bb798b0b240d89b60f0fbfd0eafae9", func := "loop.example/g01244/laws.FnExactPortraitOfPermutation", spec := "fnExactPortraitOfPermutation", unfollowed := true, recurses := true, named := ["loop.example/g01244/impl.permutationsOfTwo", "loop.example/g01244/impl.permutationsOfThree"], apart := false, laid := [("loop.example/g01244/impl.permutationsOfTwo", laid_loop_example_g01244_impl_permutationsOfTwo), ("loop.example/g01244/impl.permutationsOfThree", laid_loop_example_g01244_impl_permutationsOfThree)] }
def FnExactPortraitOfPermutationSaid : Prop := fnExactPortraitOfPermutationRow.holds Tryd.pinned (OpenSpec.ofChange fnExactPortraitOfPermutationSpec)

/-- ITS FALSE NEIGHBOUR: 'it returns false'. Refute it at one input. -/
def fnExactPortraitOfPermutationWrong : ChangeSpec := { name := "fnExactPortraitOfPermutation", vars := ["loop.example/g01244/impl.permutationsOfTwo", "loop.example/g01244/impl.permutationsOfThree"], fn := fun _ => fun
  | [d1, d2, d3, g1, g2] => { results := [.lit (.bool false)], args := [d1, d2, d3], vars := [g1, g2] }
  | _ => none }
def FnExactPortraitOfPermutationWrongFalsely : Prop := fnExactPortraitOfPermutationRow.holds Tryd.pinned (OpenSpec.ofChange fnExactPortraitOfPermutationWrong)

/-- 'laws.FnExactOrderOfPortrait': WHATEVER THE INPUT: true; the input reads as it did. -/
def fnExactOrderOfPortraitSpec : ChangeSpec := { name := "fnExactOrderOfPortrait", vars := ["loop.example/g01244/impl.permutationsOfTwo", "loop.example/g01244/impl.permutationsOfThree"], fn := fun _ => fun
  | [d1, d2, d3, g1, g2] => { results := [.lit (.bool true)], args := [d1, d2, d3], vars := [g1, g2] }
  | _ => none }
def fnExactOrderOfPortraitRow : OpenClaim := { program := "ytgeihpaealomkaadoor", sum := "d9579d70950a4922681d20fc5face18a62bb798b0b240d89b60f0fbfd0eafae9", func := "loop.example/g01244/laws.FnExactOrderOfPortrait", spec := "fnExactOrderOfPortrait", unfollowed := true, recurses := true, named := ["loop.example/g01244/impl.permutationsOfTwo", "loop.example/g01244/impl.permutationsOfThree"], apart := false, laid := [("loop.example/g01244/impl.permutationsOfTwo", laid_loop_example_g01244_impl_permutationsOfTwo), ("loop.example/g01244/impl.permutationsOfThree", laid_loop_example_g01244_impl_permutationsOfThree)] }
def FnExactOrderOfPortraitSaid : Prop := fnExactOrderOfPortraitRow.holds Tryd.pinned (OpenSpec.ofChange fnExactOrderOfPortraitSpec)

/-- ITS FALSE NEIGHBOUR: 'it returns false'. Refute it at one input. -/
def fnExactOrderOfPortraitWrong : ChangeSpec := { name := "fnExactOrderOfPortrait", vars := ["loop.example/g01244/impl.permutationsOfTwo", "loop.example/g01244/impl.permutationsOfThree"], fn := fun _ => fun
  | [d1, d2, d3, g1, g2] => { results := [.lit (.bool false)], args := [d1, d2, d3], vars := [g1, g2] }
  | _ => none }
def FnExactOrderOfPortraitWrongFalsely : Prop := fnExactOrderOfPortraitRow.holds Tryd.pinned (OpenSpec.ofChange fnExactOrderOfPortraitWrong)

/-- 'laws.FnExactIsOneCycle': WHATEVER THE INPUT: true; the input reads as it did. -/
def fnExactIsOneCycleSpec : ChangeSpec := { name := "fnExactIsOneCycle", vars := ["loop.example/g01244/impl.permutationsOfTwo", "loop.example/g01244/impl.permutationsOfThree"], fn := fun _ => fun
  | [d1, d2, d3, g1, g2] => { results := [.lit (.bool true)], args := [d1, d2, d3], vars := [g1, g2] }
  | _ => none }
def fnExactIsOneCycleRow : OpenClaim := { program := "ytgeihpaealomkaadoor", sum := "d9579d70950a4922681d20fc5face18a62bb798b0b240d89b60f0fbfd0eafae9", func := "loop.example/g01244/laws.FnExactIsOneCycle", spec := "fnExactIsOneCycle", unfollowed := true, recurses := true, named := ["loop.example/g01244/impl.permutationsOfTwo", "loop.example/g01244/impl.permutationsOfThree"], apart := false, laid := [("loop.example/g01244/impl.permutationsOfTwo", laid_loop_example_g01244_impl_permutationsOfTwo), ("loop.example/g01244/impl.permutationsOfThree", laid_loop_example_g01244_impl_permutationsOfThree)] }
def FnExactIsOneCycleSaid : Prop := fnExactIsOneCycleRow.holds Tryd.pinned (OpenSpec.ofChange fnExactIsOneCycleSpec)

/-- ITS FALSE NEIGHBOUR: 'it returns false'. Refute it at one input. -/
def fnExactIsOneCycleWrong : ChangeSpec := { name := "fnExactIsOneCycle", vars := ["loop.example/g01244/impl.permutationsOfTwo", "loop.example/g01244/impl.permutationsOfThree"], fn := fun _ => fun
  | [d1, d2, d3, g1, g2] => { results := [.lit (.bool false)], args := [d1, d2, d3], vars := [g1, g2] }
  | _ => none }
def FnExactIsOneCycleWrongFalsely : Prop := fnExactIsOneCycleRow.holds Tryd.pinned (OpenSpec.ofChange fnExactIsOneCycleWrong)

/- THE SECOND FORM. 'bulk': how many values and letters a reading holds, each counted each time it is reached (what is shared counts as often as it is met; a slice's spare places count too). A statement '..UptoSaid' is the law's where the arguments, and the package variables that the reading takes, are together of bulk at most 1048576: NARROWER than '..Said'. Prove '..Said' where nothing that the law and all that it calls make is longer than what came in: it says more and counts as full. Else prove '..UptoSaid'. A law counts once. -/
mutual
def uptoBulk {H : Type} : DataW H → Nat
  | .lit (.string bytes) => bytes.length + 1
  | .lit _ => 1
  | .nil => 1
  | .ptr d => uptoBulk d + 1
  | .slice elems spare => uptoBulkAll elems + uptoBulkAll spare + 1
  | .agg parts => uptoBulkAll parts + 1
  | .iface _ d => uptoBulk d + 1
  | .map entries => uptoBulkEntries entries + 1
  | .held _ => 1
def uptoBulkAll {H : Type} : List (DataW H) → Nat
  | [] => 0
  | d :: r => uptoBulk d + uptoBulkAll r
def uptoBulkEntries {H : Type} : List (Lit × DataW H) → Nat
  | [] => 0
  | x :: r => uptoBulkEntry x + uptoBulkEntries r
def uptoBulkEntry {H : Type} : Lit × DataW H → Nat
  | (.string bytes, d) => bytes.length + uptoBulk d + 1
  | (_, d) => uptoBulk d + 1
 end
def uptoSmall : (H : Type) → List (DataW H) → Bool := fun _ ds => decide (uptoBulkAll ds ≤ 1048576)
def OpenSpec.upto (s : _root_.Go.ChangeSpec) : _root_.Go.OpenSpec := { _root_.Go.OpenSpec.ofChange s with cond := some uptoSmall }

/-- 'laws.FnExactPortraitOf', WHERE WHAT IT READS IS OF BULK AT MOST 1048576: true; the input reads as it did. -/
def fnExactPortraitOfUptoRow : OpenClaim := { program := "ytgeihpaealomkaadoor", sum := "d9579d70950a4922681d20fc5face18a62bb798b0b240d89b60f0fbfd0eafae9", func := "loop.example/g01244/laws.FnExactPortraitOf", spec := "fnExactPortraitOf", unfollowed := true, recurses := true, named := ["loop.example/g01244/impl.permutationsOfTwo", "loop.example/g01244/impl.permutationsOfThree"], apart := false, laid := [("loop.example/g01244/impl.permutationsOfTwo", laid_loop_example_g01244_impl_permutationsOfTwo), ("loop.example/g01244/impl.permutationsOfThree", laid_loop_example_g01244_impl_permutationsOfThree)], narrowed := true }
def FnExactPortraitOfUptoSaid : Prop := fnExactPortraitOfUptoRow.holds Tryd.pinned (OpenSpec.upto fnExactPortraitOfSpec)

/-- 'laws.FnExactMultiplyPortraits', WHERE WHAT IT READS IS OF BULK AT MOST 1048576: true; the input reads as it did. -/
def fnExactMultiplyPortraitsUptoRow : OpenClaim := { program := "ytgeihpaealomkaadoor", sum := "d9579d70950a4922681d20fc5face18a62bb798b0b240d89b60f0fbfd0eafae9", func := "loop.example/g01244/laws.FnExactMultiplyPortraits", spec := "fnExactMultiplyPortraits", unfollowed := true, recurses := true, named := ["loop.example/g01244/impl.permutationsOfTwo", "loop.example/g01244/impl.permutationsOfThree"], apart := false, laid := [("loop.example/g01244/impl.permutationsOfTwo", laid_loop_example_g01244_impl_permutationsOfTwo), ("loop.example/g01244/impl.permutationsOfThree", laid_loop_example_g01244_impl_permutationsOfThree)], narrowed := true }
def FnExactMultiplyPortraitsUptoSaid : Prop := fnExactMultiplyPortraitsUptoRow.holds Tryd.pinned (OpenSpec.upto fnExactMultiplyPortraitsSpec)

/-- 'laws.FnExactInvertPortrait', WHERE WHAT IT READS IS OF BULK AT MOST 1048576: true; the input reads as it did. -/
def fnExactInvertPortraitUptoRow : OpenClaim := { program := "ytgeihpaealomkaadoor", sum := "d9579d70950a4922681d20fc5face18a62bb798b0b240d89b60f0fbfd0eafae9", func := "loop.example/g01244/laws.FnExactInvertPortrait", spec := "fnExactInvertPortrait", unfollowed := true, recurses := true, named := ["loop.example/g01244/impl.permutationsOfTwo", "loop.example/g01244/impl.permutationsOfThree"], apart := false, laid := [("loop.example/g01244/impl.permutationsOfTwo", laid_loop_example_g01244_impl_permutationsOfTwo), ("loop.example/g01244/impl.permutationsOfThree", laid_loop_example_g01244_impl_permutationsOfThree)], narrowed := true }
def FnExactInvertPortraitUptoSaid : Prop := fnExactInvertPortraitUptoRow.holds Tryd.pinned (OpenSpec.upto fnExactInvertPortraitSpec)

/-- 'laws.FnExactPermutationOfPortrait', WHERE WHAT IT READS IS OF BULK AT MOST 1048576: true; the input reads as it did. -/
def fnExactPermutationOfPortraitUptoRow : OpenClaim := { program := "ytgeihpaealomkaadoor", sum := "d9579d70950a4922681d20fc5face18a62bb798b0b240d89b60f0fbfd0eafae9", func := "loop.example/g01244/laws.FnExactPermutationOfPortrait", spec := "fnExactPermutationOfPortrait", unfollowed := true, recurses := true, named := ["loop.example/g01244/impl.permutationsOfTwo", "loop.example/g01244/impl.permutationsOfThree"], apart := false, laid := [("loop.example/g01244/impl.permutationsOfTwo", laid_loop_example_g01244_impl_permutationsOfTwo), ("loop.example/g01244/impl.permutationsOfThree", laid_loop_example_g01244_impl_permutationsOfThree)], narrowed := true }
def FnExactPermutationOfPortraitUptoSaid : Prop := fnExactPermutationOfPortraitUptoRow.holds Tryd.pinned (OpenSpec.upto fnExactPermutationOfPortraitSpec)

/-- 'laws.FnExactPortraitOfPermutation', WHERE WHAT IT READS IS OF BULK AT MOST 1048576: true; the input reads as it did. -/
def fnExactPortraitOfPermutationUptoRow : OpenClaim := { program := "ytgeihpaealomkaadoor", sum := "d9579d70950a4922681d20fc5face18a62bb798b0b240d89b60f0fbfd0eafae9", func := "loop.example/g01244/laws.FnExactPortraitOfPermutation", spec := "fnExactPortraitOfPermutation", unfollowed := true, recurses := true, named := ["loop.example/g01244/impl.permutationsOfTwo", "loop.example/g01244/impl.permutationsOfThree"], apart := false, laid := [("loop.example/g01244/impl.permutationsOfTwo", laid_loop_example_g01244_impl_permutationsOfTwo), ("loop.example/g01244/impl.permutationsOfThree", laid_loop_example_g01244_impl_permutationsOfThree)], narrowed := true }
def FnExactPortraitOfPermutationUptoSaid : Prop := fnExactPortraitOfPermutationUptoRow.holds Tryd.pinned (OpenSpec.upto fnExactPortraitOfPermutationSpec)

/-- 'laws.FnExactOrderOfPortrait', WHERE WHAT IT READS IS OF BULK AT MOST 1048576: true; the input reads as it did. -/
def fnExactOrderOfPortraitUptoRow : OpenClaim := { program := "ytgeihpaealomkaadoor", sum := "d9579d70950a4922681d20fc5face18a62bb798b0b240d89b60f0fbfd0eafae9", func := "loop.example/g01244/laws.FnExactOrderOfPortrait", spec := "fnExactOrderOfPortrait", unfollowed := true, recurses := true, named := ["loop.example/g01244/impl.permutationsOfTwo", "loop.example/g01244/impl.permutationsOfThree"], apart := false, laid := [("loop.example/g01244/impl.permutationsOfTwo", laid_loop_example_g01244_impl_permutationsOfTwo), ("loop.example/g01244/impl.permutationsOfThree", laid_loop_example_g01244_impl_permutationsOfThree)], narrowed := true }
def FnExactOrderOfPortraitUptoSaid : Prop := fnExactOrderOfPortraitUptoRow.holds Tryd.pinned (OpenSpec.upto fnExactOrderOfPortraitSpec)

/-- 'laws.FnExactIsOneCycle', WHERE WHAT IT READS IS OF BULK AT MOST 1048576: true; the input reads as it did. -/
def fnExactIsOneCycleUptoRow : OpenClaim := { program := "ytgeihpaealomkaadoor", sum := "d9579d70950a4922681d20fc5face18a62bb798b0b240d89b60f0fbfd0eafae9", func := "loop.example/g01244/laws.FnExactIsOneCycle", spec := "fnExactIsOneCycle", unfollowed := true, recurses := true, named := ["loop.example/g01244/impl.permutationsOfTwo", "loop.example/g01244/impl.permutationsOfThree"], apart := false, laid := [("loop.example/g01244/impl.permutationsOfTwo", laid_loop_example_g01244_impl_permutationsOfTwo), ("loop.example/g01244/impl.permutationsOfThree", laid_loop_example_g01244_impl_permutationsOfThree)], narrowed := true }
def FnExactIsOneCycleUptoSaid : Prop := fnExactIsOneCycleUptoRow.holds Tryd.pinned (OpenSpec.upto fnExactIsOneCycleSpec)

end Rows
end Go.Proofs.YtgeihpaealomkaaDoor
