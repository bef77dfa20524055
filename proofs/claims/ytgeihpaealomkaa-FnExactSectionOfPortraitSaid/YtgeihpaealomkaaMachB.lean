/- 'l01Is', the model's own check. -/
import Derived.Test.YtgeihpaealomkaaMachA
namespace Go.Proofs.Ytgeihpaealomkaa
open Go.RowKit

end Go.Proofs.Ytgeihpaealomkaa
