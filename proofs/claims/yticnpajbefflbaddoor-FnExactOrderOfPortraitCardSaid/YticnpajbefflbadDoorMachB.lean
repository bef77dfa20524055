/- 'isStateRow'. -/
import Derived.Test.YticnpajbefflbadDoorProg
import Derived.Test.YticnpajbefflbadDoorMach
import Derived.Test.YticnpajbefflbadDoorWordA0
namespace Go.Proofs.YticnpajbefflbadDoor
open Go.RowKit

/-- The three marks behind k rounds. -/
def marks (M : Mach) (q k : Nat) : Array Value := #[.bool (seenB M q k 0), .bool (seenB M q k 1), .bool (seenB M q k 2)]

end Go.Proofs.YticnpajbefflbadDoor

namespace Go.Proofs.YticnpajbefflbadDoor
open Go.RowKit

end Go.Proofs.YticnpajbefflbadDoor
