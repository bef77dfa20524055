/- The statement on 'IsBoundedMachine', walked. Written by genscal.py. -/
import Derived.Test.YtdbdoohcpcjfdaaMarks
import Derived.Test.YtdbdoohcpcjfdaaConv
import Derived.Test.YtdbdoohcpcjfdaaIbI
namespace Go.Proofs.Ytdbdoohcpcjfdaa
open Go.RowKit

set_option linter.unusedVariables false in
set_option maxRecDepth 100000 in
set_option maxHeartbeats 4000000 in
theorem lawIsBoundedMachine (M : Mach) (hok : M.Ok) (w : World)  :
    Calls Try.prog 9 #[.agg (mc M)] w fun e w' => e = .returned (.bool true) ∧ Below w.heap.size w w' := by
  have F1 : Hid (cut (mc M) 0 98 = mc M) := Lib.hid (cut_all _ _ (mc_size hok)); have F2 : Hid (0 + 98 ≤ (mc M).size) := Lib.hid (by rw [mc_size hok]; omega)
  have hB : Blk (w.alloc (.cells (mc M) 25)) w.heap.size (mc M) 25 := Blk.new w _ _
  have hbw0 : Below w.heap.size w (w.alloc (.cells (mc M) 25)) := by (repeat (first | exact Below.refl _ _ | refine below_drew' ?_ | refine below_drewN' ?_ _ | refine below_alloc' ?_ _ | refine below_set' ?_ (by (try simp); (try omega)) _ | refine below_step ?_ (by assumption)))
  have hB_0 := hB; clear hB
  go_enter Try.func9, Try.ntmps9
  go_wp2_with (first | (with_reducible show wpList _ _ _ _ _ _; refine wpList_load_blk rfl 25 _ rfl w.heap.size 0 rfl (mc M) _ (by first | exact hB_1 | exact hB_0) 98 F2.out _ Try.underlying25 rfl size_lmach ?_; rw [F1.out]) | (go_at_call 11; refine (toMachine_calls M hok _).mono ?_; rintro e w1 ⟨rfl, hb1⟩; have hbw1 := below_step hbw0 hb1; have hB_1 := hB_0.keptAll hb1; clear hbw0 hb1 hB_0))
  go_wp2_with (first | (with_reducible show wpList _ _ _ _ _ _; refine wpList_load_blk rfl 25 _ rfl w.heap.size 0 rfl (mc M) _ (by first | exact hB_2 | exact hB_1) 98 F2.out _ Try.underlying25 rfl size_lmach ?_; rw [F1.out]) | (go_at_call 26; refine (sIsBoundedMachine_calls M hok _ ).mono ?_; rintro e w2 ⟨rfl, hb2⟩; have hbw2 := below_step hbw1 hb2; have hB_2 := hB_1.keptAll hb2; clear hbw1 hb2 hB_1))
  go_wp2_with (first | (with_reducible show wpList _ _ _ _ _ _; refine wpList_load_blk rfl 25 _ rfl w.heap.size 0 rfl (mc M) _ (by first | exact hB_3 | exact hB_2) 98 F2.out _ Try.underlying25 rfl size_lmach ?_; rw [F1.out]) | (go_at_call 11; refine (toMachine_calls M hok _).mono ?_; rintro e w3 ⟨rfl, hb3⟩; have hbw3 := below_step hbw2 hb3; have hB_3 := hB_2.keptAll hb3; clear hbw2 hb3 hB_2))
  go_wp2_with (first | (with_reducible show wpList _ _ _ _ _ _; refine wpList_load_blk rfl 25 _ rfl w.heap.size 0 rfl (mc M) _ (by first | exact hB_4 | exact hB_3) 98 F2.out _ Try.underlying25 rfl size_lmach ?_; rw [F1.out]) | (go_at_call 27; refine (iIsBoundedMachine_calls M hok _ ).mono ?_; rintro e w4 ⟨rfl, hb4⟩; have hbw4 := below_step hbw3 hb4; have hB_4 := hB_3.keptAll hb4; clear hbw3 hb4 hB_3))
  go_ret
  exact ⟨rfl, hbw4⟩
end Go.Proofs.Ytdbdoohcpcjfdaa
