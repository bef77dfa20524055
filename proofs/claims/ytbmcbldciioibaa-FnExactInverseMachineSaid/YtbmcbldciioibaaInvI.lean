/- Both 'InverseMachine's. -/
import Derived.Test.YtbmcbldciioibaaInv
import Derived.Test.YtbmcbldciioibaaMachD
namespace Go.Proofs.Ytbmcbldciioibaa
open Go.RowKit

theorem ret_ai {c : Array Value} {m m' : Int} (h : m = m') : Ending.returned (.tuple #[.agg c, .int .i64 m]) = Ending.returned (.tuple #[.agg c, .int .i64 m']) := by rw [h]
theorem zero_over : over (mc zeroM) 0 (mc zeroM) = mc zeroM := over_all _ _ rfl

set_option maxRecDepth 100000 in
set_option maxHeartbeats 2000000 in
theorem sInverseMachine_calls (M : Mach) (hok : M.Ok) (w : World) :
    Calls Try.prog 51 #[.agg (mc M)] w fun e w' => e = .returned (.tuple #[.agg (mc (invRes M)), .int .i64 (invCode M)]) ∧ Below w.heap.size w w' := by
  have F1 : Hid (cut (mc M) 0 98 = mc M) := Lib.hid (cut_all _ _ (mc_size hok)); have F2 : Hid (0 + 98 ≤ (mc M).size) := Lib.hid (by rw [mc_size hok]; omega)
  have hz := zero_mach
  have hzs : (mc zeroM).size = 98 := mc_size zeroM_ok
  have hB : Blk ((w.alloc (.cells (mc M) 27)).alloc (.cells (mc zeroM) 27)) w.heap.size (mc M) 27 := (Blk.new w _ _).alloc _
  have hR : Blk ((w.alloc (.cells (mc M) 27)).alloc (.cells (mc zeroM) 27)) (w.heap.size + 1) (mc zeroM) 27 := Blk.new_at _ _ _ _ (by simp)
  have hbw0 : Below w.heap.size w ((w.alloc (.cells (mc M) 27)).alloc (.cells (mc zeroM) 27)) := by (repeat (first | exact Below.refl _ _ | refine below_drew' ?_ | refine below_drewN' ?_ _ | refine below_alloc' ?_ _ | refine below_set' ?_ (by (try simp); (try omega)) _ | refine below_step ?_ (by assumption)))
  have HzS := Lib.hid hzs; clear hzs
  cases hm : isMach M
  · have Hc : Hid (invCode M = 1) := Lib.hid (by simp [invCode, hm])
    have Hr : Hid (invRes M = zeroM) := Lib.hid (by simp [invRes, hm])
    go_enter Try.func51, Try.ntmps51
    go_wp2_with (first | (with_reducible show wpList _ _ _ _ _ _; refine wpList_load_blk rfl 27 (.tmp 1) rfl w.heap.size 0 rfl (mc M) _ (hB) 98 F2.out _ Try.underlying27 rfl size_mach ?_; rw [F1.out]) | (go_at_call 77; refine (l01Is_calls M hok _).mono ?_; rintro e w1 ⟨rfl, hb1⟩; rw [hm]; have hR1 := hR.keptAll hb1; have hbw1 := below_step hbw0 hb1) | (with_reducible show wpList _ _ _ _ _ _; refine wpList_store_blk rfl 27 (.tmp 2) (.tmp 7) rfl (w.heap.size + 1) 0 (mc zeroM) rfl rfl (mc zeroM) _ hR1 (by rw [HzS.out]; omega) (by rw [HzS.out]; exact size_mach) (mc_one _) ?_; intro w4 hb4 hkeep _ hbl; rw [zero_over] at hb4; have hbw4 := hbl _ _ (by omega) hbw1; clear hkeep hbl))
    exact bodyPost_cell1 rfl rfl hb4 Try.underlying27 rfl (by rw [HzS.out]; exact size_mach) rfl ⟨by rw [Hr.out, Hc.out]; rfl, hbw4⟩
  · obtain ⟨L, S, hg⟩ := Good.of hok hm
    have Hc : Hid (invCode M = 0) := Lib.hid (by simp [invCode, hm])
    have Hr : Hid (invRes M = invM M L S) := Lib.hid (by simp [invRes, hm, hg.hL, hg.hS])
    have HI := Lib.hid (mc_size (invM_ok hok L S hg.L3))
    have Hov : Hid (over (mc zeroM) 0 (mc (invM M L S)) = mc (invM M L S)) := Lib.hid (over_all _ _ (by rw [HI.out, HzS.out]))
    go_enter Try.func51, Try.ntmps51
    go_wp2_with (first | (with_reducible show wpList _ _ _ _ _ _; refine wpList_load_blk rfl 27 (.tmp 1) rfl w.heap.size 0 rfl (mc M) _ (by first | exact hB1 | exact hB) 98 F2.out _ Try.underlying27 rfl size_mach ?_; rw [F1.out]) | (go_at_call 77; refine (l01Is_calls M hok _).mono ?_; rintro e w1 ⟨rfl, hb1⟩; rw [hm]; have hB1 := hB.keptAll hb1; have hR1 := hR.keptAll hb1; have hbw1 := below_step hbw0 hb1) | (go_at_call 98; refine (l01Inverse_calls M L S hg _).mono ?_; rintro e w2 ⟨rfl, hb2⟩; have hR2 := hR1.keptAll hb2; have hbw2 := below_step hbw1 hb2) | (with_reducible show wpList _ _ _ _ _ _; refine wpList_store_blk rfl 27 (.tmp 2) (.tmp 9) rfl (w.heap.size + 1) 0 (mc (invM M L S)) rfl rfl (mc zeroM) _ hR2 (by rw [HI.out, HzS.out]; omega) (by rw [HI.out]; exact size_mach) (mc_one _) ?_; intro w4 hb4 hkeep _ hbl; rw [Hov.out] at hb4; have hbw4 := hbl _ _ (by omega) hbw2; clear hkeep hbl))
    exact bodyPost_cell1 rfl rfl hb4 Try.underlying27 rfl (by rw [HI.out]; exact size_mach) rfl ⟨by rw [Hr.out, Hc.out]; rfl, hbw4⟩
end Go.Proofs.Ytbmcbldciioibaa
