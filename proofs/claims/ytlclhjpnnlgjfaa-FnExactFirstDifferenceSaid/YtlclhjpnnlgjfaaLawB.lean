/- 'ActOnWord' and 'SectionAt', program and model, and the statements on them. -/
import Derived.Test.YtlclhjpnnlgjfaaLawA
import Derived.Test.YtlclhjpnnlgjfaaAct
namespace Go.Proofs.Ytlclhjpnnlgjfaa
open Go.RowKit

/-- The code of a walk. -/
def walkCode (M : Mach) (q : Int) (s : ByteArray) : Int := if isMach M = false ∨ wordB M.L.toNat s = false then 1 else if 0 ≤ q ∧ q < M.S then 0 else 2

end Go.Proofs.Ytlclhjpnnlgjfaa
