/- 'WordOfNumber', program and model, and the statement on them. -/
import Derived.Test.YtdbdoohcpcjfdaaWordD
namespace Go.Proofs.Ytdbdoohcpcjfdaa
open Go.RowKit

def wnOk (d n k : Int) : Bool := isAlpha d && isLev n && decide (0 ≤ k) && decide (k < pw d.toNat n.toNat)
def wnStr (d n k : Int) : ByteArray := if wnOk d n k then ⟨(wordOf d.toNat n.toNat k.toNat).toArray⟩ else ⟨#[]⟩
def wnCode (d n k : Int) : Int := if wnOk d n k then 0 else 2
theorem ret_si {a b : ByteArray} {i j : Int} (h : a = b) (h' : i = j) : Ending.returned (.tuple #[.string a, .int .i64 i]) = .returned (.tuple #[.string b, .int .i64 j]) := by rw [h, h']

end Go.Proofs.Ytdbdoohcpcjfdaa
