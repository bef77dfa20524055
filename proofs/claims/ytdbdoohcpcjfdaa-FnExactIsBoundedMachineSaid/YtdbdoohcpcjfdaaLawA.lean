/- The statement on 'IsMachine', walked. -/
import Derived.Test.YtdbdoohcpcjfdaaMachD
import Derived.Test.YtdbdoohcpcjfdaaConv
namespace Go.Proofs.Ytdbdoohcpcjfdaa
open Go.RowKit

end Go.Proofs.Ytdbdoohcpcjfdaa
