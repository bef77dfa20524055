/- 'walk' and 'l01Act': the word to which a state leads a word, and its section there. -/
import Derived.Test.YtlclhjpnnlgjfaaLedM
import Derived.Test.YtlclhjpnnlgjfaaInts
import Derived.Test.YtlclhjpnnlgjfaaMachC
namespace Go.Proofs.Ytlclhjpnnlgjfaa
open Go.RowKit

end Go.Proofs.Ytlclhjpnnlgjfaa
