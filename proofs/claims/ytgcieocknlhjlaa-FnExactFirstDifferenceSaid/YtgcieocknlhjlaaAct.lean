/- 'walk' and 'l01Act': the word to which a state leads a word, and its section there. -/
import Derived.Test.YtgcieocknlhjlaaActM
import Derived.Test.YtgcieocknlhjlaaInts
import Derived.Test.YtgcieocknlhjlaaMachC
namespace Go.Proofs.Ytgcieocknlhjlaa
open Go.RowKit

end Go.Proofs.Ytgcieocknlhjlaa
