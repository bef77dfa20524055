/- 'NumberOfWord', program and model, and the statement on them. -/
import Derived.Test.YtdbdoohcpcjfdaaWordE
namespace Go.Proofs.Ytdbdoohcpcjfdaa
open Go.RowKit

def nwCode (d : Int) (s : ByteArray) : Int := if isAlpha d = false then 2 else if wordB d.toNat s = false then 1 else if 5 < s.size then 3 else 0
def nwVal (d : Int) (s : ByteArray) : Int := if nwCode d s = 0 then numI d.toNat s.data.toList else 0
theorem ret_ii {a b : Int} {i j : Int} (h : a = b) (h' : i = j) : Ending.returned (.tuple #[.int .i64 a, .int .i64 i]) = .returned (.tuple #[.int .i64 b, .int .i64 j]) := by rw [h, h']

end Go.Proofs.Ytdbdoohcpcjfdaa
