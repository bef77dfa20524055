/-
  No cell of these rows narrows 'for every input' (looked for: loops, veiled, ifaces, maps, wideKeys, modest, calm, conditions, laid).
  DERIVED. THE GIVEN ROWS OF THIS SEAT. 6 by the template 'for every input the law returns true; each argument reads behind the call as it read before'; 0 by the template 'total and deterministic' (their statements: YtppmfpgpbdjkdaaTotals.lean).
  GIVEN WITH THE SEED: the statements are not yours to turn. If you find one false, say at which input.
  Laid BY PROGRAM, IN A SANDBOX (cutbox-rows.mjs): the forced cells as the released guide's own fill.sh prints them over the translation 054bce669d43328b… (all of the seat's roots in one cut). By AI agents, Wed Nov 11 2026. No macro, syntax, notation, axiom, sorry.
-/
import Derived.Test.YtppmfpgpbdjkdaaChecked
import GoSem.Claim
import GoSem.ClaimJoined
import GoSem.ClaimMapViews
import Derived.JoinedTies
import Derived.KernelRfl
namespace Go.Proofs.Ytppmfpgpbdjkdaa
/- THE CELL 'sum', in the pinned program and in every row, IS THE sha256 OF THE DUMP (.gsa) THAT YtppmfpgpbdjkdaaProg.lean LOADS. Nothing in Lean hashes anything: it is a label: what it is worth is what the hold of that sum in a sandbox is worth. -/
noncomputable def Try.pinned : Pinned := { name := "ytppmfpgpbdjkdaa", sum := "054bce669d43328b8e11fd80306cf3cc15569cb9b31ed54f3edba80102be6907", checked := Try.checked }
namespace Rows
def none {H : Type} : Left H := { results := [], args := [] }

/-- 'laws.FnExactIsTrivialWord': WHATEVER THE INPUT: true; the input reads as it did. -/
def fnExactIsTrivialWordSpec : ChangeSpec := { name := "fnExactIsTrivialWord", fn := fun _ => fun
  | [d1, d2] => { results := [.lit (.bool true)], args := [d1, d2] }
  | _ => none }
def fnExactIsTrivialWordRow : OpenClaim := { program := "ytppmfpgpbdjkdaa", sum := "054bce669d43328b8e11fd80306cf3cc15569cb9b31ed54f3edba80102be6907", func := "loop.example/g01244/laws.FnExactIsTrivialWord", spec := "fnExactIsTrivialWord", unfollowed := true, recurses := true, plainKeys := false, apart := false }
def FnExactIsTrivialWordSaid : Prop := fnExactIsTrivialWordRow.holds Try.pinned (OpenSpec.ofChange fnExactIsTrivialWordSpec)

/-- ITS FALSE NEIGHBOUR: 'it returns false'. Refute it at one input. -/
def fnExactIsTrivialWordWrong : ChangeSpec := { name := "fnExactIsTrivialWord", fn := fun _ => fun
  | [d1, d2] => { results := [.lit (.bool false)], args := [d1, d2] }
  | _ => none }
def FnExactIsTrivialWordWrongFalsely : Prop := fnExactIsTrivialWordRow.holds Try.pinned (OpenSpec.ofChange fnExactIsTrivialWordWrong)

/-- 'laws.FnExactAreEqualWords': WHATEVER THE INPUT: true; the input reads as it did. -/
def fnExactAreEqualWordsSpec : ChangeSpec := { name := "fnExactAreEqualWords", fn := fun _ => fun
  | [d1, d2, d3] => { results := [.lit (.bool true)], args := [d1, d2, d3] }
  | _ => none }
def fnExactAreEqualWordsRow : OpenClaim := { program := "ytppmfpgpbdjkdaa", sum := "054bce669d43328b8e11fd80306cf3cc15569cb9b31ed54f3edba80102be6907", func := "loop.example/g01244/laws.FnExactAreEqualWords", spec := "fnExactAreEqualWords", unfollowed := true, recurses := true, plainKeys := false, apart := false }
def FnExactAreEqualWordsSaid : Prop := fnExactAreEqualWordsRow.holds Try.pinned (OpenSpec.ofChange fnExactAreEqualWordsSpec)

/-- ITS FALSE NEIGHBOUR: 'it returns false'. Refute it at one input. -/
def fnExactAreEqualWordsWrong : ChangeSpec := { name := "fnExactAreEqualWords", fn := fun _ => fun
  | [d1, d2, d3] => { results := [.lit (.bool false)], args := [d1, d2, d3] }
  | _ => none }
def FnExactAreEqualWordsWrongFalsely : Prop := fnExactAreEqualWordsRow.holds Try.pinned (OpenSpec.ofChange fnExactAreEqualWordsWrong)

/-- 'laws.FnExactMachineOfWord': WHATEVER THE INPUT: true; the input reads as it did. -/
def fnExactMachineOfWordSpec : ChangeSpec := { name := "fnExactMachineOfWord", fn := fun _ => fun
  | [d1, d2] => { results := [.lit (.bool true)], args := [d1, d2] }
  | _ => none }
def fnExactMachineOfWordRow : OpenClaim := { program := "ytppmfpgpbdjkdaa", sum := "054bce669d43328b8e11fd80306cf3cc15569cb9b31ed54f3edba80102be6907", func := "loop.example/g01244/laws.FnExactMachineOfWord", spec := "fnExactMachineOfWord", unfollowed := true, recurses := true, plainKeys := false, apart := false }
def FnExactMachineOfWordSaid : Prop := fnExactMachineOfWordRow.holds Try.pinned (OpenSpec.ofChange fnExactMachineOfWordSpec)

/-- ITS FALSE NEIGHBOUR: 'it returns false'. Refute it at one input. -/
def fnExactMachineOfWordWrong : ChangeSpec := { name := "fnExactMachineOfWord", fn := fun _ => fun
  | [d1, d2] => { results := [.lit (.bool false)], args := [d1, d2] }
  | _ => none }
def FnExactMachineOfWordWrongFalsely : Prop := fnExactMachineOfWordRow.holds Try.pinned (OpenSpec.ofChange fnExactMachineOfWordWrong)

/-- 'laws.FnExactNormalWord': WHATEVER THE INPUT: true; the input reads as it did. -/
def fnExactNormalWordSpec : ChangeSpec := { name := "fnExactNormalWord", fn := fun _ => fun
  | [d1, d2] => { results := [.lit (.bool true)], args := [d1, d2] }
  | _ => none }
def fnExactNormalWordRow : OpenClaim := { program := "ytppmfpgpbdjkdaa", sum := "054bce669d43328b8e11fd80306cf3cc15569cb9b31ed54f3edba80102be6907", func := "loop.example/g01244/laws.FnExactNormalWord", spec := "fnExactNormalWord", plainKeys := false, apart := false }
def FnExactNormalWordSaid : Prop := fnExactNormalWordRow.holds Try.pinned (OpenSpec.ofChange fnExactNormalWordSpec)

/-- ITS FALSE NEIGHBOUR: 'it returns false'. Refute it at one input. -/
def fnExactNormalWordWrong : ChangeSpec := { name := "fnExactNormalWord", fn := fun _ => fun
  | [d1, d2] => { results := [.lit (.bool false)], args := [d1, d2] }
  | _ => none }
def FnExactNormalWordWrongFalsely : Prop := fnExactNormalWordRow.holds Try.pinned (OpenSpec.ofChange fnExactNormalWordWrong)

/-- 'laws.FnExactSectionsOfLevel': WHATEVER THE INPUT: true; the input reads as it did. -/
def fnExactSectionsOfLevelSpec : ChangeSpec := { name := "fnExactSectionsOfLevel", fn := fun _ => fun
  | [d1, d2, d3] => { results := [.lit (.bool true)], args := [d1, d2, d3] }
  | _ => none }
def fnExactSectionsOfLevelRow : OpenClaim := { program := "ytppmfpgpbdjkdaa", sum := "054bce669d43328b8e11fd80306cf3cc15569cb9b31ed54f3edba80102be6907", func := "loop.example/g01244/laws.FnExactSectionsOfLevel", spec := "fnExactSectionsOfLevel", unfollowed := true, recurses := true, plainKeys := false, apart := false }
def FnExactSectionsOfLevelSaid : Prop := fnExactSectionsOfLevelRow.holds Try.pinned (OpenSpec.ofChange fnExactSectionsOfLevelSpec)

/-- ITS FALSE NEIGHBOUR: 'it returns false'. Refute it at one input. -/
def fnExactSectionsOfLevelWrong : ChangeSpec := { name := "fnExactSectionsOfLevel", fn := fun _ => fun
  | [d1, d2, d3] => { results := [.lit (.bool false)], args := [d1, d2, d3] }
  | _ => none }
def FnExactSectionsOfLevelWrongFalsely : Prop := fnExactSectionsOfLevelRow.holds Try.pinned (OpenSpec.ofChange fnExactSectionsOfLevelWrong)

/-- 'laws.FnExactSectionLengths': WHATEVER THE INPUT: true; the input reads as it did. -/
def fnExactSectionLengthsSpec : ChangeSpec := { name := "fnExactSectionLengths", fn := fun _ => fun
  | [d1, d2, d3] => { results := [.lit (.bool true)], args := [d1, d2, d3] }
  | _ => none }
def fnExactSectionLengthsRow : OpenClaim := { program := "ytppmfpgpbdjkdaa", sum := "054bce669d43328b8e11fd80306cf3cc15569cb9b31ed54f3edba80102be6907", func := "loop.example/g01244/laws.FnExactSectionLengths", spec := "fnExactSectionLengths", unfollowed := true, recurses := true, plainKeys := false, apart := false }
def FnExactSectionLengthsSaid : Prop := fnExactSectionLengthsRow.holds Try.pinned (OpenSpec.ofChange fnExactSectionLengthsSpec)

/-- ITS FALSE NEIGHBOUR: 'it returns false'. Refute it at one input. -/
def fnExactSectionLengthsWrong : ChangeSpec := { name := "fnExactSectionLengths", fn := fun _ => fun
  | [d1, d2, d3] => { results := [.lit (.bool false)], args := [d1, d2, d3] }
  | _ => none }
def FnExactSectionLengthsWrongFalsely : Prop := fnExactSectionLengthsRow.holds Try.pinned (OpenSpec.ofChange fnExactSectionLengthsWrong)

/- THE SECOND FORM. 'bulk': how many values and letters a reading holds, each counted each time it is reached (what is shared counts as often as it is met; a slice's spare places count too). A statement '..UptoSaid' is the law's where the arguments, and the package variables that the reading takes, are together of bulk at most 1048576: NARROWER than '..Said'. Prove '..Said' where nothing that the law and all that it calls make is longer than what came in: it says more and counts as full. Else prove '..UptoSaid'. A law counts once. -/
mutual
def uptoBulk {H : Type} : DataW H → Nat
  | .lit (.string bytes) => bytes.length + 1
  | .lit _ => 1
  | .nil => 1
  | .ptr d => uptoBulk d + 1
  | .slice elems spare => uptoBulkAll elems + uptoBulkAll spare + 1
  | .agg parts => uptoBulkAll parts + 1
  | .iface _ d => uptoBulk d + 1
  | .map entries => uptoBulkEntries entries + 1
  | .held _ => 1
def uptoBulkAll {H : Type} : List (DataW H) → Nat
  | [] => 0
  | d :: r => uptoBulk d + uptoBulkAll r
def uptoBulkEntries {H : Type} : List (Lit × DataW H) → Nat
  | [] => 0
  | x :: r => uptoBulkEntry x + uptoBulkEntries r
def uptoBulkEntry {H : Type} : Lit × DataW H → Nat
  | (.string bytes, d) => bytes.length + uptoBulk d + 1
  | (_, d) => uptoBulk d + 1
 end
def uptoSmall : (H : Type) → List (DataW H) → Bool := fun _ ds => decide (uptoBulkAll ds ≤ 1048576)
def OpenSpec.upto (s : _root_.Go.ChangeSpec) : _root_.Go.OpenSpec := { _root_.Go.OpenSpec.ofChange s with cond := some uptoSmall }

/-- 'laws.FnExactIsTrivialWord', WHERE WHAT IT READS IS OF BULK AT MOST 1048576: true; the input reads as it did. -/
def fnExactIsTrivialWordUptoRow : OpenClaim := { program := "ytppmfpgpbdjkdaa", sum := "054bce669d43328b8e11fd80306cf3cc15569cb9b31ed54f3edba80102be6907", func := "loop.example/g01244/laws.FnExactIsTrivialWord", spec := "fnExactIsTrivialWord", unfollowed := true, recurses := true, plainKeys := false, apart := false, narrowed := true }
def FnExactIsTrivialWordUptoSaid : Prop := fnExactIsTrivialWordUptoRow.holds Try.pinned (OpenSpec.upto fnExactIsTrivialWordSpec)

/-- 'laws.FnExactAreEqualWords', WHERE WHAT IT READS IS OF BULK AT MOST 1048576: true; the input reads as it did. -/
def fnExactAreEqualWordsUptoRow : OpenClaim := { program := "ytppmfpgpbdjkdaa", sum := "054bce669d43328b8e11fd80306cf3cc15569cb9b31ed54f3edba80102be6907", func := "loop.example/g01244/laws.FnExactAreEqualWords", spec := "fnExactAreEqualWords", unfollowed := true, recurses := true, plainKeys := false, apart := false, narrowed := true }
def FnExactAreEqualWordsUptoSaid : Prop := fnExactAreEqualWordsUptoRow.holds Try.pinned (OpenSpec.upto fnExactAreEqualWordsSpec)

/-- 'laws.FnExactMachineOfWord', WHERE WHAT IT READS IS OF BULK AT MOST 1048576: true; the input reads as it did. -/
def fnExactMachineOfWordUptoRow : OpenClaim := { program := "ytppmfpgpbdjkdaa", sum := "054bce669d43328b8e11fd80306cf3cc15569cb9b31ed54f3edba80102be6907", func := "loop.example/g01244/laws.FnExactMachineOfWord", spec := "fnExactMachineOfWord", unfollowed := true, recurses := true, plainKeys := false, apart := false, narrowed := true }
def FnExactMachineOfWordUptoSaid : Prop := fnExactMachineOfWordUptoRow.holds Try.pinned (OpenSpec.upto fnExactMachineOfWordSpec)

/-- 'laws.FnExactNormalWord', WHERE WHAT IT READS IS OF BULK AT MOST 1048576: true; the input reads as it did. -/
def fnExactNormalWordUptoRow : OpenClaim := { program := "ytppmfpgpbdjkdaa", sum := "054bce669d43328b8e11fd80306cf3cc15569cb9b31ed54f3edba80102be6907", func := "loop.example/g01244/laws.FnExactNormalWord", spec := "fnExactNormalWord", plainKeys := false, apart := false, narrowed := true }
def FnExactNormalWordUptoSaid : Prop := fnExactNormalWordUptoRow.holds Try.pinned (OpenSpec.upto fnExactNormalWordSpec)

/-- 'laws.FnExactSectionsOfLevel', WHERE WHAT IT READS IS OF BULK AT MOST 1048576: true; the input reads as it did. -/
def fnExactSectionsOfLevelUptoRow : OpenClaim := { program := "ytppmfpgpbdjkdaa", sum := "054bce669d43328b8e11fd80306cf3cc15569cb9b31ed54f3edba80102be6907", func := "loop.example/g01244/laws.FnExactSectionsOfLevel", spec := "fnExactSectionsOfLevel", unfollowed := true, recurses := true, plainKeys := false, apart := false, narrowed := true }
def FnExactSectionsOfLevelUptoSaid : Prop := fnExactSectionsOfLevelUptoRow.holds Try.pinned (OpenSpec.upto fnExactSectionsOfLevelSpec)

/-- 'laws.FnExactSectionLengths', WHERE WHAT IT READS IS OF BULK AT MOST 1048576: true; the input reads as it did. -/
def fnExactSectionLengthsUptoRow : OpenClaim := { program := "ytppmfpgpbdjkdaa", sum := "054bce669d43328b8e11fd80306cf3cc15569cb9b31ed54f3edba80102be6907", func := "loop.example/g01244/laws.FnExactSectionLengths", spec := "fnExactSectionLengths", unfollowed := true, recurses := true, plainKeys := false, apart := false, narrowed := true }
def FnExactSectionLengthsUptoSaid : Prop := fnExactSectionLengthsUptoRow.holds Try.pinned (OpenSpec.upto fnExactSectionLengthsSpec)

end Rows
end Go.Proofs.Ytppmfpgpbdjkdaa
