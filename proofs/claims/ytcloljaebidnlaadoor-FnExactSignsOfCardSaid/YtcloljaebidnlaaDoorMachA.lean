/- 'isStateRow'. -/
import Derived.Test.YtcloljaebidnlaaDoorProg
import Derived.Test.YtcloljaebidnlaaDoorMach
import Derived.Test.YtcloljaebidnlaaDoorWordA0
namespace Go.Proofs.YtcloljaebidnlaaDoor
open Go.RowKit

/-- The three marks behind k rounds. -/
def marks (M : Mach) (q k : Nat) : Array Value := #[.bool (seenB M q k 0), .bool (seenB M q k 1), .bool (seenB M q k 2)]

end Go.Proofs.YtcloljaebidnlaaDoor
