/- 'usedPart': the machine with 0 in all entries that belong to no state or no letter. -/
import Derived.Test.YticnpajbefflbadDoorMachB
import Derived.Test.YticnpajbefflbadDoorMachU
import Derived.Deep.WholeRow
import Derived.StillTailTactics
namespace Go.Proofs.YticnpajbefflbadDoor
open Go.RowKit

theorem size_byte : (Tryd.prog.info? 5).map (·.size) = some 1 := by kernel_rfl
end Go.Proofs.YticnpajbefflbadDoor
