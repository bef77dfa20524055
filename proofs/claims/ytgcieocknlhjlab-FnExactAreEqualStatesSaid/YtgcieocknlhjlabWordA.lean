/- Contracts of the small functions on levels and numbers. -/
import Derived.Test.YtgcieocknlhjlabWordA0
namespace Go.Proofs.Ytgcieocknlhjlab
open Go.RowKit

end Go.Proofs.Ytgcieocknlhjlab
