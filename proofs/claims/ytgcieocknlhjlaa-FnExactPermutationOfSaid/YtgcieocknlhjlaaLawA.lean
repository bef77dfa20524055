/- The statement on 'IsMachine', walked. -/
import Derived.Test.YtgcieocknlhjlaaMachD
import Derived.Test.YtgcieocknlhjlaaConv
namespace Go.Proofs.Ytgcieocknlhjlaa
open Go.RowKit

end Go.Proofs.Ytgcieocknlhjlaa
