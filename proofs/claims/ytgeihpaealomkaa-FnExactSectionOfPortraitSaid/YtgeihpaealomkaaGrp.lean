/- Both 'IsGroupWord's, and the model's check of machines and group words. -/
import Derived.Test.YtgeihpaealomkaaGrpM
import Derived.Test.YtgeihpaealomkaaArgs
import Derived.Test.YtgeihpaealomkaaMachD
import Derived.Test.YtgeihpaealomkaaMach
namespace Go.Proofs.Ytgeihpaealomkaa
open Go.RowKit

def isGrp (M : Mach) (zs : List Int) : Bool := isMach M && grpOk M.S zs
theorem wrap_neg (S : Nat) (h : S ≤ 16) : IntKind.i64.wrap (-(S : Int)) = -(S : Int) := IntWalk.i64_in _ (by omega)

end Go.Proofs.Ytgeihpaealomkaa
