/- The statement on 'IsMachine', walked. -/
import Derived.Test.YticnpajbefflbabMachD
import Derived.Test.YticnpajbefflbabConv
namespace Go.Proofs.Yticnpajbefflbab
open Go.RowKit

end Go.Proofs.Yticnpajbefflbab
