/- The statement on 'IsMachine', walked. -/
import Derived.Test.YtlclhjpnnlgjfaaMachD
import Derived.Test.YtlclhjpnnlgjfaaConv
namespace Go.Proofs.Ytlclhjpnnlgjfaa
open Go.RowKit

end Go.Proofs.Ytlclhjpnnlgjfaa
