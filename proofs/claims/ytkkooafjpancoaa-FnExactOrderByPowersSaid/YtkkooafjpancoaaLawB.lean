/- 'ActOnWord' and 'SectionAt', program and model, and the statements on them. -/
import Derived.Test.YtkkooafjpancoaaLawA
import Derived.Test.YtkkooafjpancoaaAct
namespace Go.Proofs.Ytkkooafjpancoaa
open Go.RowKit

/-- The code of a walk. -/
def walkCode (M : Mach) (q : Int) (s : ByteArray) : Int := if isMach M = false ∨ wordB M.L.toNat s = false then 1 else if 0 ≤ q ∧ q < M.S then 0 else 2

theorem isState_calls (M : Mach) (q : Int) (w : World) :
    Calls Try.prog 73 #[.agg (mc M), .int .i64 q] w fun e w' => e = .returned (.bool (decide (0 ≤ q ∧ q < M.S))) ∧ Below w.heap.size w w' := by
  have hS := mc_S M
  by_cases h0 : 0 ≤ q
  · by_cases h1 : q < M.S
    · go_enter Try.func73, Try.ntmps73
      go_wp2
      go_ret
      exact ⟨ret_bool (by simp [h0, h1]), by (repeat (first | exact Below.refl _ _ | refine below_drew' ?_ | refine below_drewN' ?_ _ | refine below_alloc' ?_ _ | refine below_set' ?_ (by (try simp); (try omega)) _ | refine below_step ?_ (by assumption)))⟩
    · go_enter Try.func73, Try.ntmps73
      go_wp2
      go_ret
      exact ⟨ret_bool (by simp; omega), by (repeat (first | exact Below.refl _ _ | refine below_drew' ?_ | refine below_drewN' ?_ _ | refine below_alloc' ?_ _ | refine below_set' ?_ (by (try simp); (try omega)) _ | refine below_step ?_ (by assumption)))⟩
  · go_enter Try.func73, Try.ntmps73
    go_wp2
    go_ret
    exact ⟨ret_bool (by simp; omega), by (repeat (first | exact Below.refl _ _ | refine below_drew' ?_ | refine below_drewN' ?_ _ | refine below_alloc' ?_ _ | refine below_set' ?_ (by (try simp); (try omega)) _ | refine below_step ?_ (by assumption)))⟩

end Go.Proofs.Ytkkooafjpancoaa
