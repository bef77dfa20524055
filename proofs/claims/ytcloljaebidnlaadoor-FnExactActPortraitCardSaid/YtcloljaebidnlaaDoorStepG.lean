/- What one number of a group word does: the model's 'l02State', 'l02Step'; the guide's two ways. -/
import Derived.Test.YtcloljaebidnlaaDoorLedM
import Derived.Test.YtcloljaebidnlaaDoorMachC
import Derived.Test.YtcloljaebidnlaaDoorQuietK
import Derived.Lib.MinMax
namespace Go.Proofs.YtcloljaebidnlaaDoor
open Go.RowKit

theorem ret_bi {a a' b b' : Int} (h : a = a') (h' : b = b') : Ending.returned (.tuple #[.int .u8 a, .int .i64 b]) = Ending.returned (.tuple #[.int .u8 a', .int .i64 b']) := by rw [h, h']
theorem stOf_pos {k : Int} (h : 0 < k) : (stOf k : Int) = k - 1 := by unfold stOf; rw [if_pos h]; omega
theorem stOf_neg {k : Int} (h0 : k ≠ 0) (h : ¬ 0 < k) : (stOf k : Int) = -k - 1 := by unfold stOf; rw [if_neg h]; omega

/-- The guide of a state, whose machine lies in block b. -/
def gd (b : Nat) (q : Int) : Value := .agg #[.pointer (some ⟨b, 0, none⟩), .int .i64 q]

end Go.Proofs.YtcloljaebidnlaaDoor
