/- 'ActPortrait': the model, whole. -/
import Derived.Test.YtgeihpaealomkaaDoorPcE
namespace Go.Proofs.YtgeihpaealomkaaDoor
open Go.RowKit

end Go.Proofs.YtgeihpaealomkaaDoor
