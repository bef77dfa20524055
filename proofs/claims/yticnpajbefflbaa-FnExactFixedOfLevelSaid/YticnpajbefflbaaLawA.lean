/- The statement on 'IsMachine', walked. -/
import Derived.Test.YticnpajbefflbaaMachD
import Derived.Test.YticnpajbefflbaaConv
namespace Go.Proofs.Yticnpajbefflbaa
open Go.RowKit

end Go.Proofs.Yticnpajbefflbaa
