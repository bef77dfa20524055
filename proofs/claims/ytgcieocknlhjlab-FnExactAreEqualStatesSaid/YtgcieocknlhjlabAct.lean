/- 'walk' and 'l01Act': the word to which a state leads a word, and its section there. -/
import Derived.Test.YtgcieocknlhjlabActM
import Derived.Test.YtgcieocknlhjlabInts
import Derived.Test.YtgcieocknlhjlabMachC
namespace Go.Proofs.Ytgcieocknlhjlab
open Go.RowKit

end Go.Proofs.Ytgcieocknlhjlab
