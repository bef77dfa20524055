/- The statement on 'IsMachine', walked. -/
import Derived.Test.YtgeihpaealomkaaDoorMachD
import Derived.Test.YtgeihpaealomkaaDoorConv
namespace Go.Proofs.YtgeihpaealomkaaDoor
open Go.RowKit

end Go.Proofs.YtgeihpaealomkaaDoor
