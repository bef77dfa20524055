/- What the rows' proofs share: the program's own facts, and how arguments are opened. -/
import Derived.Test.YtgeihpaealomkaaRows
import Derived.Test.YtgeihpaealomkaaEqM
import Derived.WalkKit
import Derived.ProofKit
import Derived.OpenShut
import Derived.ShutString
import Derived.ChangeOld
import Derived.Below
import Derived.Lib.SmallJoins
namespace Go.Proofs.Ytgeihpaealomkaa
open Go.ChangeShapes Go.WideShapes Go.ChangeAt Go.RowKit
theorem own : ownKnob Try.prog.godebug = none := by kernel_rfl
theorem laidOut : laidOutB Try.prog = true := by kernel_rfl

theorem at_of_cut {l : List Value} {i : Nat} {v : Value} (h : (l.drop i).take 1 = [v]) : l[i]? = some v := by
  have := congrArg (fun l => l[0]?) h
  simpa [List.getElem?_take, List.getElem?_drop] using this

/-- The machine of zeros, written out, for the witness. -/
def machZero : Value := .agg (mc zeroM)
end Go.Proofs.Ytgeihpaealomkaa
