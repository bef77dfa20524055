/- The statement on 'IsMachine', walked. -/
import Derived.Test.YtppmfpgpbdjkdabMachD
import Derived.Test.YtppmfpgpbdjkdabConv
namespace Go.Proofs.Ytppmfpgpbdjkdab
open Go.RowKit

end Go.Proofs.Ytppmfpgpbdjkdab
