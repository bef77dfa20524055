/- 'usedPart': the machine with 0 in all entries that belong to no state or no letter. -/
import Derived.Test.YtgeihpaealomkaaMachB
import Derived.Test.YtgeihpaealomkaaMachU
import Derived.Deep.WholeRow
import Derived.StillTailTactics
namespace Go.Proofs.Ytgeihpaealomkaa
open Go.RowKit

theorem size_byte : (Try.prog.info? 5).map (·.size) = some 1 := by kernel_rfl
end Go.Proofs.Ytgeihpaealomkaa
