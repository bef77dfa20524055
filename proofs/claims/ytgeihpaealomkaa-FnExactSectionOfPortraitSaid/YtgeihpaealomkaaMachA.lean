/- 'isStateRow'. -/
import Derived.Test.YtgeihpaealomkaaProg
import Derived.Test.YtgeihpaealomkaaMach
import Derived.Test.YtgeihpaealomkaaWordA0
namespace Go.Proofs.Ytgeihpaealomkaa
open Go.RowKit

/-- The three marks behind k rounds. -/
def marks (M : Mach) (q k : Nat) : Array Value := #[.bool (seenB M q k 0), .bool (seenB M q k 1), .bool (seenB M q k 2)]

end Go.Proofs.Ytgeihpaealomkaa
