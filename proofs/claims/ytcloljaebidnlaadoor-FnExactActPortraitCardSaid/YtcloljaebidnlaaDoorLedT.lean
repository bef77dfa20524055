/- Letters led through the steps of a group word: program and model. -/
import Derived.Test.YtcloljaebidnlaaDoorLedG
import Derived.Test.YtcloljaebidnlaaDoorGrpT
namespace Go.Proofs.YtcloljaebidnlaaDoor
open Go.RowKit

end Go.Proofs.YtcloljaebidnlaaDoor
