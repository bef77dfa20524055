/- 'MinimalMachine': the program, for every machine. -/
import Derived.Test.YticnplcjjkilpaaMinI
namespace Go.Proofs.Yticnplcjjkilpaa
open Go.RowKit

theorem ret_min {c c' : Array Value} {v : Value} {m m' : Int} (h : c = c') (h' : m = m') : Ending.returned (.tuple #[.agg c, v, .int .i64 m]) = Ending.returned (.tuple #[.agg c', v, .int .i64 m']) := by rw [h, h']
theorem zero_over : over (mc zeroM) 0 (mc zeroM) = mc zeroM := over_all _ _ rfl

set_option maxRecDepth 100000 in
set_option maxHeartbeats 2000000 in
theorem iMinimalMachine_calls (M : Mach) (hok : M.Ok) (w : World) :
    Calls Try.prog 57 #[.agg (mc M)] w fun e w' => ∃ v, e = .returned (.tuple #[.agg (mc (minR M)), v, .int .i64 (minC M)]) ∧ OwnI w' w.heap.size v (minN M) ∧ Below w.heap.size w w' := by
  cases hm : isMach M
  · have Hc : Hid (minC M = 1) := Lib.hid (by simp [minC, hm])
    have Hr : Hid (minR M = zeroM) := Lib.hid (by simp [minR, hm])
    have Hn : Hid (minN M = []) := Lib.hid (by simp [minN, hm])
    have F1 : Hid (cut (mc M) 0 98 = mc M) := Lib.hid (cut_all _ _ (mc_size hok)); have F2 : Hid (0 + 98 ≤ (mc M).size) := Lib.hid (by rw [mc_size hok]; omega)
    have hz := zero_mach
    have HzS : Hid ((mc zeroM).size = 98) := Lib.hid (mc_size zeroM_ok)
    have hB : Blk ((w.alloc (.cells (mc M) 29)).alloc (.cells (mc zeroM) 29)) w.heap.size (mc M) 29 := (Blk.new w _ _).alloc _
    have hR : Blk ((w.alloc (.cells (mc M) 29)).alloc (.cells (mc zeroM) 29)) (w.heap.size + 1) (mc zeroM) 29 := Blk.new_at _ _ _ _ (by simp)
    have hbw0 : Below w.heap.size w ((w.alloc (.cells (mc M) 29)).alloc (.cells (mc zeroM) 29)) := by (repeat (first | exact Below.refl _ _ | refine below_drew' ?_ | refine below_drewN' ?_ _ | refine below_alloc' ?_ _ | refine below_set' ?_ (by (try simp); (try omega)) _ | refine below_step ?_ (by assumption)))
    go_enter Try.func57, Try.ntmps57
    go_wp2_with (first | (with_reducible show wpList _ _ _ _ _ _; refine wpList_load_blk rfl 29 (.tmp 1) rfl w.heap.size 0 rfl (mc M) _ (hB) 98 F2.out _ Try.underlying29 rfl size_mach ?_; rw [F1.out]) | (go_at_call 56; refine (IsMachine_calls M hok _).mono ?_; rintro e w1 ⟨rfl, hb1⟩; rw [hm]; have hR1 := hR.keptAll hb1; have hbw1 := below_step hbw0 hb1) | (with_reducible show wpList _ _ _ _ _ _; refine wpList_store_row rfl 29 (.tmp 2) (.tmp 14) rfl (w.heap.size + 1) 0 (mc zeroM) rfl rfl _ _ hR1 (by rw [HzS.out]; omega) (by rw [HzS.out]; exact size_mach) (mc_one _) _ zero_over ?_; intro w4 hs4))
    have hb4 := hs4.blk
    have hbw4 := hs4.below _ _ (by omega) hbw1
    exact bodyPost_cell2 rfl rfl hb4 Try.underlying29 rfl (by rw [HzS.out]; exact size_mach) rfl ⟨_, ret_min (by rw [Hr.out]) Hc.out.symm, by rw [Hn.out]; exact OwnI.nil _ _, hbw4⟩
  · obtain ⟨L, S, hg⟩ := Good.of hok hm
    refine (iMinimal_good M L S hg w).mono ?_
    rintro e w' ⟨v, rfl, hv, hb⟩
    refine ⟨v, ret_min ?_ ?_, ?_, hb⟩
    · rw [show minR M = mnAll M L S S by simp [minR, hm, hg.hL, hg.hS]]
    · simp [minC, hm]
    · rw [show minN M = numsT M L S S by simp [minN, hm, hg.hL, hg.hS]]; exact hv
end Go.Proofs.Yticnplcjjkilpaa
