/- A search that may be given up: the panic of 'goOn', the door that meets it. -/
import Derived.Test.YtkkooafjpancoaaRows
import Derived.Test.YtkkooafjpancoaaBase
import Derived.Test.YtkkooafjpancoaaLaws
import Derived.Defers
import Derived.Recover
import Derived.Laws.Pointers
namespace Go.Proofs.Ytkkooafjpancoaa
open Go.RowKit

/-- The reason for which a search is given up. -/
def gaveUp (c : Int) : Ending := .panicked [{ v := .iface 85 (.int .i64 c), recovered := false }]
theorem goOn_none (w : World) : Calls Try.prog 84 #[.int .i64 0] w fun e w' => e = .returned (.tuple #[]) ∧ w' = w := by
  go_enter Try.func84, Try.ntmps84
  go_wp2
  go_end0
  exact ⟨rfl, rfl⟩
theorem goOn_calls (c : Int) (hc : c ≠ 0) (w : World) : Calls Try.prog 84 #[.int .i64 c] w fun e w' => e = gaveUp c ∧ w' = w := by
  go_enter Try.func84, Try.ntmps84
  go_wp2
  exact ⟨rfl, rfl, rfl⟩

theorem asUp (v : Value) (w : World) : (Instr.typeAssert (.iface 85 v) 20 85 false).run Try.prog w = .ok v w := by kernel_rfl

end Go.Proofs.Ytkkooafjpancoaa
