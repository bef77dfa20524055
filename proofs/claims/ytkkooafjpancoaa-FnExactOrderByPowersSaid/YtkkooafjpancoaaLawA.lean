/- The statement on 'IsMachine', walked. -/
import Derived.Test.YtkkooafjpancoaaMachD
import Derived.Test.YtkkooafjpancoaaConv
namespace Go.Proofs.Ytkkooafjpancoaa
open Go.RowKit

end Go.Proofs.Ytkkooafjpancoaa
