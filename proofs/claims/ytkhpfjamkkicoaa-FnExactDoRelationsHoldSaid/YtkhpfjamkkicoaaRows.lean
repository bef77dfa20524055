/-
  No cell of these rows narrows 'for every input' (looked for: loops, veiled, ifaces, maps, wideKeys, modest, calm, conditions, laid).
  DERIVED. THE GIVEN ROWS OF THIS SEAT. 4 by the template 'for every input the law returns true; each argument reads behind the call as it read before'; 0 by the template 'total and deterministic' (their statements: YtkhpfjamkkicoaaTotals.lean).
  GIVEN WITH THE SEED: the statements are not yours to turn. If you find one false, say at which input.
  Laid BY PROGRAM, IN A SANDBOX (cutbox-rows.mjs): the forced cells as the released guide's own fill.sh prints them over the translation 88db27152d66ebaf… (all of the seat's roots in one cut). By AI agents, Wed Nov 11 2026. No macro, syntax, notation, axiom, sorry.
-/
import Derived.Test.YtkhpfjamkkicoaaChecked
import GoSem.Claim
import GoSem.ClaimJoined
import GoSem.ClaimMapViews
import Derived.JoinedTies
import Derived.KernelRfl
namespace Go.Proofs.Ytkhpfjamkkicoaa
/- THE CELL 'sum', in the pinned program and in every row, IS THE sha256 OF THE DUMP (.gsa) THAT YtkhpfjamkkicoaaProg.lean LOADS. Nothing in Lean hashes anything: it is a label: what it is worth is what the hold of that sum in a sandbox is worth. -/
noncomputable def Try.pinned : Pinned := { name := "ytkhpfjamkkicoaa", sum := "88db27152d66ebaf0ea1ae870fe799e3d00961dad3701a109b88ed6eef7e2107", checked := Try.checked }
namespace Rows
def none {H : Type} : Left H := { results := [], args := [] }

/-- 'laws.FnExactAreEqualWords': WHATEVER THE INPUT: true; the input reads as it did. -/
def fnExactAreEqualWordsSpec : ChangeSpec := { name := "fnExactAreEqualWords", fn := fun _ => fun
  | [d1, d2, d3] => { results := [.lit (.bool true)], args := [d1, d2, d3] }
  | _ => none }
def fnExactAreEqualWordsRow : OpenClaim := { program := "ytkhpfjamkkicoaa", sum := "88db27152d66ebaf0ea1ae870fe799e3d00961dad3701a109b88ed6eef7e2107", func := "loop.example/g01244/laws.FnExactAreEqualWords", spec := "fnExactAreEqualWords", unfollowed := true, recurses := true, plainKeys := false, apart := false }
def FnExactAreEqualWordsSaid : Prop := fnExactAreEqualWordsRow.holds Try.pinned (OpenSpec.ofChange fnExactAreEqualWordsSpec)

/-- ITS FALSE NEIGHBOUR: 'it returns false'. Refute it at one input. -/
def fnExactAreEqualWordsWrong : ChangeSpec := { name := "fnExactAreEqualWords", fn := fun _ => fun
  | [d1, d2, d3] => { results := [.lit (.bool false)], args := [d1, d2, d3] }
  | _ => none }
def FnExactAreEqualWordsWrongFalsely : Prop := fnExactAreEqualWordsRow.holds Try.pinned (OpenSpec.ofChange fnExactAreEqualWordsWrong)

/-- 'laws.FnExactDoRelationsHold': WHATEVER THE INPUT: true; the input reads as it did. -/
def fnExactDoRelationsHoldSpec : ChangeSpec := { name := "fnExactDoRelationsHold", fn := fun _ => fun
  | [d1, d2] => { results := [.lit (.bool true)], args := [d1, d2] }
  | _ => none }
def fnExactDoRelationsHoldRow : OpenClaim := { program := "ytkhpfjamkkicoaa", sum := "88db27152d66ebaf0ea1ae870fe799e3d00961dad3701a109b88ed6eef7e2107", func := "loop.example/g01244/laws.FnExactDoRelationsHold", spec := "fnExactDoRelationsHold", unfollowed := true, recurses := true, plainKeys := false, apart := false }
def FnExactDoRelationsHoldSaid : Prop := fnExactDoRelationsHoldRow.holds Try.pinned (OpenSpec.ofChange fnExactDoRelationsHoldSpec)

/-- ITS FALSE NEIGHBOUR: 'it returns false'. Refute it at one input. -/
def fnExactDoRelationsHoldWrong : ChangeSpec := { name := "fnExactDoRelationsHold", fn := fun _ => fun
  | [d1, d2] => { results := [.lit (.bool false)], args := [d1, d2] }
  | _ => none }
def FnExactDoRelationsHoldWrongFalsely : Prop := fnExactDoRelationsHoldRow.holds Try.pinned (OpenSpec.ofChange fnExactDoRelationsHoldWrong)

/-- 'laws.FnExactNumberOfDigits': WHATEVER THE INPUT: true; the input reads as it did. -/
def fnExactNumberOfDigitsSpec : ChangeSpec := { name := "fnExactNumberOfDigits", fn := fun _ => fun
  | [d1, d2] => { results := [.lit (.bool true)], args := [d1, d2] }
  | _ => none }
def fnExactNumberOfDigitsRow : OpenClaim := { program := "ytkhpfjamkkicoaa", sum := "88db27152d66ebaf0ea1ae870fe799e3d00961dad3701a109b88ed6eef7e2107", func := "loop.example/g01244/laws.FnExactNumberOfDigits", spec := "fnExactNumberOfDigits", plainKeys := false, apart := false }
def FnExactNumberOfDigitsSaid : Prop := fnExactNumberOfDigitsRow.holds Try.pinned (OpenSpec.ofChange fnExactNumberOfDigitsSpec)

/-- ITS FALSE NEIGHBOUR: 'it returns false'. Refute it at one input. -/
def fnExactNumberOfDigitsWrong : ChangeSpec := { name := "fnExactNumberOfDigits", fn := fun _ => fun
  | [d1, d2] => { results := [.lit (.bool false)], args := [d1, d2] }
  | _ => none }
def FnExactNumberOfDigitsWrongFalsely : Prop := fnExactNumberOfDigitsRow.holds Try.pinned (OpenSpec.ofChange fnExactNumberOfDigitsWrong)

/-- 'laws.FnExactDigitsOfNumber': WHATEVER THE INPUT: true; the input reads as it did. -/
def fnExactDigitsOfNumberSpec : ChangeSpec := { name := "fnExactDigitsOfNumber", fn := fun _ => fun
  | [d1, d2, d3] => { results := [.lit (.bool true)], args := [d1, d2, d3] }
  | _ => none }
def fnExactDigitsOfNumberRow : OpenClaim := { program := "ytkhpfjamkkicoaa", sum := "88db27152d66ebaf0ea1ae870fe799e3d00961dad3701a109b88ed6eef7e2107", func := "loop.example/g01244/laws.FnExactDigitsOfNumber", spec := "fnExactDigitsOfNumber", plainKeys := false, apart := false }
def FnExactDigitsOfNumberSaid : Prop := fnExactDigitsOfNumberRow.holds Try.pinned (OpenSpec.ofChange fnExactDigitsOfNumberSpec)

/-- ITS FALSE NEIGHBOUR: 'it returns false'. Refute it at one input. -/
def fnExactDigitsOfNumberWrong : ChangeSpec := { name := "fnExactDigitsOfNumber", fn := fun _ => fun
  | [d1, d2, d3] => { results := [.lit (.bool false)], args := [d1, d2, d3] }
  | _ => none }
def FnExactDigitsOfNumberWrongFalsely : Prop := fnExactDigitsOfNumberRow.holds Try.pinned (OpenSpec.ofChange fnExactDigitsOfNumberWrong)

/- THE SECOND FORM. 'bulk': how many values and letters a reading holds, each counted each time it is reached (what is shared counts as often as it is met; a slice's spare places count too). A statement '..UptoSaid' is the law's where the arguments, and the package variables that the reading takes, are together of bulk at most 1048576: NARROWER than '..Said'. Prove '..Said' where nothing that the law and all that it calls make is longer than what came in: it says more and counts as full. Else prove '..UptoSaid'. A law counts once. -/
mutual
def uptoBulk {H : Type} : DataW H → Nat
  | .lit (.string bytes) => bytes.length + 1
  | .lit _ => 1
  | .nil => 1
  | .ptr d => uptoBulk d + 1
  | .slice elems spare => uptoBulkAll elems + uptoBulkAll spare + 1
  | .agg parts => uptoBulkAll parts + 1
  | .iface _ d => uptoBulk d + 1
  | .map entries => uptoBulkEntries entries + 1
  | .held _ => 1
def uptoBulkAll {H : Type} : List (DataW H) → Nat
  | [] => 0
  | d :: r => uptoBulk d + uptoBulkAll r
def uptoBulkEntries {H : Type} : List (Lit × DataW H) → Nat
  | [] => 0
  | x :: r => uptoBulkEntry x + uptoBulkEntries r
def uptoBulkEntry {H : Type} : Lit × DataW H → Nat
  | (.string bytes, d) => bytes.length + uptoBulk d + 1
  | (_, d) => uptoBulk d + 1
 end
def uptoSmall : (H : Type) → List (DataW H) → Bool := fun _ ds => decide (uptoBulkAll ds ≤ 1048576)
def OpenSpec.upto (s : _root_.Go.ChangeSpec) : _root_.Go.OpenSpec := { _root_.Go.OpenSpec.ofChange s with cond := some uptoSmall }

/-- 'laws.FnExactAreEqualWords', WHERE WHAT IT READS IS OF BULK AT MOST 1048576: true; the input reads as it did. -/
def fnExactAreEqualWordsUptoRow : OpenClaim := { program := "ytkhpfjamkkicoaa", sum := "88db27152d66ebaf0ea1ae870fe799e3d00961dad3701a109b88ed6eef7e2107", func := "loop.example/g01244/laws.FnExactAreEqualWords", spec := "fnExactAreEqualWords", unfollowed := true, recurses := true, plainKeys := false, apart := false, narrowed := true }
def FnExactAreEqualWordsUptoSaid : Prop := fnExactAreEqualWordsUptoRow.holds Try.pinned (OpenSpec.upto fnExactAreEqualWordsSpec)

/-- 'laws.FnExactDoRelationsHold', WHERE WHAT IT READS IS OF BULK AT MOST 1048576: true; the input reads as it did. -/
def fnExactDoRelationsHoldUptoRow : OpenClaim := { program := "ytkhpfjamkkicoaa", sum := "88db27152d66ebaf0ea1ae870fe799e3d00961dad3701a109b88ed6eef7e2107", func := "loop.example/g01244/laws.FnExactDoRelationsHold", spec := "fnExactDoRelationsHold", unfollowed := true, recurses := true, plainKeys := false, apart := false, narrowed := true }
def FnExactDoRelationsHoldUptoSaid : Prop := fnExactDoRelationsHoldUptoRow.holds Try.pinned (OpenSpec.upto fnExactDoRelationsHoldSpec)

/-- 'laws.FnExactNumberOfDigits', WHERE WHAT IT READS IS OF BULK AT MOST 1048576: true; the input reads as it did. -/
def fnExactNumberOfDigitsUptoRow : OpenClaim := { program := "ytkhpfjamkkicoaa", sum := "88db27152d66ebaf0ea1ae870fe799e3d00961dad3701a109b88ed6eef7e2107", func := "loop.example/g01244/laws.FnExactNumberOfDigits", spec := "fnExactNumberOfDigits", plainKeys := false, apart := false, narrowed := true }
def FnExactNumberOfDigitsUptoSaid : Prop := fnExactNumberOfDigitsUptoRow.holds Try.pinned (OpenSpec.upto fnExactNumberOfDigitsSpec)

/-- 'laws.FnExactDigitsOfNumber', WHERE WHAT IT READS IS OF BULK AT MOST 1048576: true; the input reads as it did. -/
def fnExactDigitsOfNumberUptoRow : OpenClaim := { program := "ytkhpfjamkkicoaa", sum := "88db27152d66ebaf0ea1ae870fe799e3d00961dad3701a109b88ed6eef7e2107", func := "loop.example/g01244/laws.FnExactDigitsOfNumber", spec := "fnExactDigitsOfNumber", plainKeys := false, apart := false, narrowed := true }
def FnExactDigitsOfNumberUptoSaid : Prop := fnExactDigitsOfNumberUptoRow.holds Try.pinned (OpenSpec.upto fnExactDigitsOfNumberSpec)

end Rows
end Go.Proofs.Ytkhpfjamkkicoaa
