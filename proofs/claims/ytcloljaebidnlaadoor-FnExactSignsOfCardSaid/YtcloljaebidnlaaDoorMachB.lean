/- 'l01Is', the model's own check. -/
import Derived.Test.YtcloljaebidnlaaDoorMachA
namespace Go.Proofs.YtcloljaebidnlaaDoor
open Go.RowKit

end Go.Proofs.YtcloljaebidnlaaDoor
