/- The statement on 'IsMachine', walked. -/
import Derived.Test.YtgcieocknlhjlabMachD
import Derived.Test.YtgcieocknlhjlabConv
namespace Go.Proofs.Ytgcieocknlhjlab
open Go.RowKit

end Go.Proofs.Ytgcieocknlhjlab
