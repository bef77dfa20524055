/- 'walk' and 'l01Act': the word to which a state leads a word, and its section there. -/
import Derived.Test.YtkkooafjpancoaaLedM
import Derived.Test.YtkkooafjpancoaaInts
import Derived.Test.YtkkooafjpancoaaMachC
namespace Go.Proofs.Ytkkooafjpancoaa
open Go.RowKit

end Go.Proofs.Ytkkooafjpancoaa
