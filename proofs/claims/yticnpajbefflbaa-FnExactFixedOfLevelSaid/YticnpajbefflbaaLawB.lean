/- 'ActOnWord' and 'SectionAt', program and model, and the statements on them. -/
import Derived.Test.YticnpajbefflbaaLawA
import Derived.Test.YticnpajbefflbaaAct
namespace Go.Proofs.Yticnpajbefflbaa
open Go.RowKit

/-- The code of a walk. -/
def walkCode (M : Mach) (q : Int) (s : ByteArray) : Int := if isMach M = false ∨ wordB M.L.toNat s = false then 1 else if 0 ≤ q ∧ q < M.S then 0 else 2

theorem isState_calls (M : Mach) (q : Int) (w : World) :
    Calls Try.prog 88 #[.agg (mc M), .int .i64 q] w fun e w' => e = .returned (.bool (decide (0 ≤ q ∧ q < M.S))) ∧ Below w.heap.size w w' := by
  have hS := mc_S M
  by_cases h0 : 0 ≤ q
  · by_cases h1 : q < M.S
    · go_enter Try.func88, Try.ntmps88
      go_wp2
      go_ret
      exact ⟨ret_bool (by simp [h0, h1]), by (repeat (first | exact Below.refl _ _ | refine below_drew' ?_ | refine below_drewN' ?_ _ | refine below_alloc' ?_ _ | refine below_set' ?_ (by (try simp); (try omega)) _ | refine below_step ?_ (by assumption)))⟩
    · go_enter Try.func88, Try.ntmps88
      go_wp2
      go_ret
      exact ⟨ret_bool (by simp; omega), by (repeat (first | exact Below.refl _ _ | refine below_drew' ?_ | refine below_drewN' ?_ _ | refine below_alloc' ?_ _ | refine below_set' ?_ (by (try simp); (try omega)) _ | refine below_step ?_ (by assumption)))⟩
  · go_enter Try.func88, Try.ntmps88
    go_wp2
    go_ret
    exact ⟨ret_bool (by simp; omega), by (repeat (first | exact Below.refl _ _ | refine below_drew' ?_ | refine below_drewN' ?_ _ | refine below_alloc' ?_ _ | refine below_set' ?_ (by (try simp); (try omega)) _ | refine below_step ?_ (by assumption)))⟩

set_option maxRecDepth 100000 in
theorem l01Word_calls (M : Mach) (L : Nat) (hL : M.L = L) (hL3 : L ≤ 3) (s : ByteArray) (hs : s.size ≤ 1048576) (w : World) :
    Calls Try.prog 72 #[.agg (mc M), .string s] w fun e w' => e = .returned (.bool (wordB L s)) ∧ Below w.heap.size w w' := by
  have hcL := mc_L M
  rw [hL] at hcL
  have HL := Lib.hid hL; clear hL
  by_cases h40 : s.size ≤ 40
  · go_enter Try.func72, Try.ntmps72
    go_wp2_with (first | (go_at_call 86; refine (l01Letters_calls L s hL3 h40 _).mono ?_; rintro e w' ⟨rfl, rfl⟩))
    go_ret
    exact ⟨ret_bool (by simp [wordB, h40]), by (repeat (first | exact Below.refl _ _ | refine below_drew' ?_ | refine below_drewN' ?_ _ | refine below_alloc' ?_ _ | refine below_set' ?_ (by (try simp); (try omega)) _ | refine below_step ?_ (by assumption)))⟩
  · go_enter Try.func72, Try.ntmps72
    go_wp2_with fail
    go_ret
    exact ⟨ret_bool (by simp [wordB, h40]), by (repeat (first | exact Below.refl _ _ | refine below_drew' ?_ | refine below_drewN' ?_ _ | refine below_alloc' ?_ _ | refine below_set' ?_ (by (try simp); (try omega)) _ | refine below_step ?_ (by assumption)))⟩

end Go.Proofs.Yticnpajbefflbaa
