/- 'eqMachine' of a machine and itself. -/
import Derived.Test.YtkkooafjpancoaaConv
namespace Go.Proofs.Ytkkooafjpancoaa
open Go.RowKit

set_option maxRecDepth 100000 in
set_option maxHeartbeats 400000 in
theorem eqByteA3_same (c : Array Value) (hs : c.size = 3) (hc : byteCells c) (w : World) :
    Calls Try.prog 71 #[.agg c, .agg c] w fun e w' => e = .returned (.bool true) ∧ Below w.heap.size w w' := by
  have hB1 : Blk ((w.alloc (.cells c 22)).alloc (.cells c 22)) w.heap.size c 22 := (Blk.new w _ _).alloc _
  have hB2 : Blk ((w.alloc (.cells c 22)).alloc (.cells c 22)) (w.heap.size + 1) c 22 := Blk.new_at _ _ _ _ (by simp)
  have hbw : Below w.heap.size w ((w.alloc (.cells c 22)).alloc (.cells c 22)) := by (repeat (first | exact Below.refl _ _ | refine below_drew' ?_ | refine below_drewN' ?_ _ | refine below_alloc' ?_ _ | refine below_set' ?_ (by (try simp); (try omega)) _ | refine below_step ?_ (by assumption)))
  have Hs := Lib.hid hs; clear hs
  go_enter Try.func71, Try.ntmps71
  go_wp2
  go_loopw [5] (fun i wr => ∃ k : Nat, k ≤ 3 ∧ i = .int .i64 k ∧ Blk wr w.heap.size c 22 ∧ Blk wr (w.heap.size + 1) c 22 ∧ Below w.heap.size w wr) (fun i _ => 3 - (intOf i).toNat)
  case atStart => exact ⟨0, by omega, rfl, hB1, hB2, hbw⟩
  case round =>
    clear hB1 hB2 hbw
    obtain ⟨k, hk, rfl, hB1, hB2, hbw⟩ := hrel
    by_cases hlt : k < 3
    · obtain ⟨n, hn⟩ := byteCells_at hc k (by rw [Hs.out]; exact hlt)
      have cA := hB1.cell k
      have cB := hB2.cell k
      rw [hn] at cA cB
      have hki : (k : Int) < 3 := by omega
      clear hn
      go_wp2
      go_quiet (fail)
      go_wp2
      go_roundw
      case rel => exact ⟨k + 1, by omega, by go_num, by first | exact hB1.drew | exact hB1, by first | exact hB2.drew | exact hB2, by (repeat (first | exact Below.refl _ _ | refine below_drew' ?_ | refine below_drewN' ?_ _ | refine below_alloc' ?_ _ | refine below_set' ?_ (by (try simp); (try omega)) _ | refine below_step ?_ (by assumption)))⟩
      case measure => simp [intOf] <;> omega
    · obtain rfl : k = 3 := by omega
      go_wp2
      go_ret
      exact ⟨rfl, hbw⟩
end Go.Proofs.Ytkkooafjpancoaa
