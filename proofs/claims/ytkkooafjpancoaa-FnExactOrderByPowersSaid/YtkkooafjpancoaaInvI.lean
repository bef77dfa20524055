/- Both 'InverseMachine's. -/
import Derived.Test.YtkkooafjpancoaaInv
import Derived.Test.YtkkooafjpancoaaMachD
namespace Go.Proofs.Ytkkooafjpancoaa
open Go.RowKit

theorem ret_ai {c : Array Value} {m m' : Int} (h : m = m') : Ending.returned (.tuple #[.agg c, .int .i64 m]) = Ending.returned (.tuple #[.agg c, .int .i64 m']) := by rw [h]
theorem zero_over : over (mc zeroM) 0 (mc zeroM) = mc zeroM := over_all _ _ rfl

end Go.Proofs.Ytkkooafjpancoaa
