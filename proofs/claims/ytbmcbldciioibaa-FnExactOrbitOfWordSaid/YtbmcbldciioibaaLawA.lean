/- The statement on 'IsMachine', walked. -/
import Derived.Test.YtbmcbldciioibaaMachD
import Derived.Test.YtbmcbldciioibaaConv
namespace Go.Proofs.Ytbmcbldciioibaa
open Go.RowKit

set_option maxRecDepth 100000 in
theorem sIsMachine_calls (M : Mach) (hok : M.Ok) (w : World) :
    Calls Try.prog 46 #[.agg (mc M)] w fun e w' => e = .returned (.bool (isMach M)) ∧ Below w.heap.size w w' := by
  have hB : Blk (w.alloc (.cells (mc M) 27)) w.heap.size (mc M) 27 := Blk.new w _ _
  have F1 : Hid (cut (mc M) 0 98 = mc M) := Lib.hid (cut_all _ _ (mc_size hok))
  have F2 : Hid (0 + 98 ≤ (mc M).size) := Lib.hid (by rw [mc_size hok]; omega)
  go_enter Try.func46, Try.ntmps46
  go_wp2_with (first | (with_reducible show wpList _ _ _ _ _ _; refine wpList_load_blk rfl 27 (.tmp 1) rfl w.heap.size 0 rfl (mc M) _ hB 98 F2.out _ Try.underlying27 rfl size_mach ?_; rw [F1.out]) | (go_at_call 77; refine (l01Is_calls M hok _).mono ?_; rintro e w1 ⟨rfl, hb1⟩))
  go_ret
  exact ⟨rfl, by (repeat (first | exact Below.refl _ _ | refine below_drew' ?_ | refine below_drewN' ?_ _ | refine below_alloc' ?_ _ | refine below_set' ?_ (by (try simp); (try omega)) _ | refine below_step ?_ (by assumption)))⟩

set_option maxRecDepth 100000 in
theorem lawIsMachine (M : Mach) (hok : M.Ok) (w : World) :
    Calls Try.prog 5 #[.agg (mc M)] w fun e w' => e = .returned (.bool true) ∧ Below w.heap.size w w' := by
  have hB : Blk (w.alloc (.cells (mc M) 57)) w.heap.size (mc M) 57 := Blk.new w _ _
  have F1 : Hid (cut (mc M) 0 98 = mc M) := Lib.hid (cut_all _ _ (mc_size hok))
  have F2 : Hid (0 + 98 ≤ (mc M).size) := Lib.hid (by rw [mc_size hok]; omega)
  go_enter Try.func5, Try.ntmps5
  go_wp2_with (first | (with_reducible show wpList _ _ _ _ _ _; refine wpList_load_blk rfl 57 _ rfl w.heap.size 0 rfl (mc M) _ (by first | exact hB2 | exact hB) 98 F2.out _ Try.underlying57 rfl size_lmach ?_; rw [F1.out]) | (go_at_call 47; refine (toMachine_calls M hok _).mono ?_; rintro e w1 ⟨rfl, hb1⟩) | (go_at_call 46; refine (sIsMachine_calls M hok _).mono ?_; rintro e w2 ⟨rfl, hb2⟩; have hB2 := (hB.keptAll hb1).keptAll hb2) | (go_at_call 48; refine (IsMachine_calls M hok _).mono ?_; rintro e w3 ⟨rfl, hb3⟩))
  go_ret
  exact ⟨rfl, by (repeat (first | exact Below.refl _ _ | refine below_drew' ?_ | refine below_drewN' ?_ _ | refine below_alloc' ?_ _ | refine below_set' ?_ (by (try simp); (try omega)) _ | refine below_step ?_ (by assumption)))⟩
end Go.Proofs.Ytbmcbldciioibaa
