/- Both 'IsGroupWord's, and the model's check of machines and group words. -/
import Derived.Test.YtgeihpaealomkaaDoorGrpM
import Derived.Test.YtgeihpaealomkaaDoorArgs
import Derived.Test.YtgeihpaealomkaaDoorMachD
import Derived.Test.YtgeihpaealomkaaDoorMach
namespace Go.Proofs.YtgeihpaealomkaaDoor
open Go.RowKit

def isGrp (M : Mach) (zs : List Int) : Bool := isMach M && grpOk M.S zs
theorem wrap_neg (S : Nat) (h : S ≤ 16) : IntKind.i64.wrap (-(S : Int)) = -(S : Int) := IntWalk.i64_in _ (by omega)

end Go.Proofs.YtgeihpaealomkaaDoor
