/- 'withClasses': the view of a machine by sets of states. -/
import Derived.Test.YtkkooafjpancoaaMinK
import Derived.Test.YtkkooafjpancoaaInvM
import Derived.Test.YtkkooafjpancoaaMachC
import Derived.StillTailTactics
namespace Go.Proofs.Ytkkooafjpancoaa
open Go.RowKit

/-- Sixteen bytes. -/
def c8 (c : List Int) : Array Value := (c.map (Value.int .u8)).toArray
theorem c8_size (c : List Int) : (c8 c).size = c.length := by simp [c8]
theorem c8_at (c : List Int) (i : Nat) (hi : i < c.length) : (c8 c)[i]? = some (.int .u8 (c.getD i 0)) := by
  simp [c8, List.getD, List.getElem?_eq_getElem hi]
theorem c8_set (c : List Int) (i : Nat) (v : Int) : c8 (c.set i v) = (c8 c).setIfInBounds i (.int .u8 v) := by
  apply Array.ext'; simp [c8]
theorem vStep_mc (M : Mach) (c : List Int) (q x : Nat) {V : Mach} (hV : V.Ok) (hb : q * 3 + x < 48) : mc (vStep M c q x V) = (mc V).setIfInBounds (2 + q * 3 + x) (.int .u8 (c.getD (nn M q x) 0)) := by
  rw [show 2 + q * 3 + x = 2 + (q * 3 + x) from by omega, ← mc_set_nx hV.nx48 _ hb]
  rfl

end Go.Proofs.Ytkkooafjpancoaa
