/- The statement on 'CommutatorOfStates', walked. Written by genlawm.py. -/
import Derived.Test.YtkkooafjpancoaaConv
import Derived.Test.YtkkooafjpancoaaEqB
import Derived.Test.YtkkooafjpancoaaCoS
namespace Go.Proofs.Ytkkooafjpancoaa
open Go.RowKit

set_option linter.unusedVariables false in
set_option maxRecDepth 100000 in
set_option maxHeartbeats 4000000 in
theorem lawCommutatorOfStates (M : Mach) (hok : M.Ok) (k1 : Int) (hk1 : (Lit.int .i64 k1).wf = true) (k2 : Int) (hk2 : (Lit.int .i64 k2).wf = true) (w : World) :
    Calls Try.prog 10 #[.agg (mc M), .int .i64 k1, .int .i64 k2] w fun e w' => e = .returned (.bool true) ∧ Below w.heap.size w w' := by
  have hz := zero_mach
  have F1 : Hid (cut (mc M) 0 98 = mc M) := Lib.hid (cut_all _ _ (mc_size hok))
  have F2 : Hid (0 + 98 ≤ (mc M).size) := Lib.hid (by rw [mc_size hok]; omega)
  have HtM := Lib.hid (fun W => toMachine_calls M hok W)
  have HS := Lib.hid (fun W => sCommutatorOfStates_calls M hok k1 k2 W)
  have HI := Lib.hid (fun W => iCommutatorOfStates_calls M hok k1 k2 W)
  have hRok : (coR M k1 k2).Ok := coR_ok hok k1 k2
  generalize coR M k1 k2 = R at *
  generalize coC M k1 k2 = c at *
  have HE := Lib.hid (fun W => eqMachine_same R hRok W)
  have HR := Lib.hid (mc_size hRok)
  have Hzs := Lib.hid (mc_size zeroM_ok)
  have Hov : Hid (over (mc zeroM) 0 (mc R) = mc R) := Lib.hid (over_all _ _ (by rw [HR.out, Hzs.out]))
  have R1 : Hid (cut (mc R) 0 98 = mc R) := Lib.hid (cut_all _ _ HR.out)
  have hM0 : Blk (w.alloc (.cells (mc M) 25)) w.heap.size (mc M) 25 := Blk.new _ _ _
  have hb0 : Below w.heap.size w (w.alloc (.cells (mc M) 25)) := by (repeat (first | exact Below.refl _ _ | refine below_drew' ?_ | refine below_drewN' ?_ _ | refine below_alloc' ?_ _ | refine below_set' ?_ (by (try simp); (try omega)) _ | refine below_step ?_ (by assumption)))
  clear hRok hok
  go_enter Try.func10, Try.ntmps10
  go_wp2_with (first | (with_reducible show wpList _ _ _ _ _ _; refine wpList_load_blk rfl 25 _ rfl w.heap.size 0 rfl (mc M) _ (by first | exact hM0) 98 F2.out _ Try.underlying25 rfl size_lmach ?_; rw [F1.out]) | (go_at_call 14; refine (HtM.out _).mono ?_; rintro e w1 ⟨rfl, hc1⟩; have hM1 := hM0.keptAll hc1; have hb1 := below_step hb0 hc1; clear hM0 hb0 hc1) | (go_at_call 29; refine (HS.out _).mono ?_; rintro e w2 ⟨rfl, hc2⟩; have hl2 := (hM1.keptAll hc2).lt; have hM2 := (hM1.keptAll hc2).alloc (.cells (mc zeroM) 28); have hb2' := below_step hb1 hc2; have hge2 := hb2'.size; have hb2 := below_alloc' hb2' (.cells (mc zeroM) 28); have hY2 : Blk (w2.alloc (.cells (mc zeroM) 28)) w2.heap.size (mc zeroM) 28 := Blk.new _ _ _; clear hc2 hb2' hM1 hb1) | ((with_reducible show wpList _ _ _ _ _ _); refine wpList_store_blk rfl 28 (.tmp 7) (.tmp 17) rfl w2.heap.size 0 (mc R) rfl rfl (mc zeroM) 28 hY2 (by rw [HR.out, Hzs.out]; omega) (by rw [HR.out]; exact size_mach) (mc_one _) ?_; intro w3 hX3 hkeep hsz hbl; clear hsz; rw [Hov.out] at hX3; have hM3 := hkeep w.heap.size _ _ (by omega) hM2; have hb3 := hbl w.heap.size w hge2 hb2; clear hkeep hbl hM2 hb2 hY2) | (with_reducible show wpList _ _ _ _ _ _; refine wpList_load_blk rfl 25 _ rfl w.heap.size 0 rfl (mc M) _ (by first | exact hM3) 98 F2.out _ Try.underlying25 rfl size_lmach ?_; rw [F1.out]))
  obtain ⟨g1, hg1⟩ : ∃ g, w2.heap.size = g := ⟨_, rfl⟩
  have Hg1 := Lib.hid hg1
  rw [hg1] at hX3 hl2 ⊢
  clear hg1
  go_wp2_with (first | (go_at_call 14; refine (HtM.out _).mono ?_; rintro e w4 ⟨rfl, hc4⟩; have hM4 := hM3.keptAll hc4; have hb4 := below_step hb3 hc4; have hX4 := hX3.keptAll hc4; clear hM3 hb3 hc4 hX3) | (go_at_call 30; refine (HI.out _).mono ?_; rintro e w5 ⟨rfl, hc5⟩; have hl5 := (hM4.keptAll hc5).lt; have hM5 := (hM4.keptAll hc5).alloc (.cells (mc zeroM) 28); have hb5' := below_step hb4 hc5; have hge5 := hb5'.size; have hb5 := below_alloc' hb5' (.cells (mc zeroM) 28); have hlx5 := (hX4.keptAll hc5).lt; have hX5 := (hX4.keptAll hc5).alloc (.cells (mc zeroM) 28); have hY5 : Blk (w5.alloc (.cells (mc zeroM) 28)) w5.heap.size (mc zeroM) 28 := Blk.new _ _ _; clear hc5 hb5' hM4 hb4 hX4) | ((with_reducible show wpList _ _ _ _ _ _); refine wpList_store_blk rfl 28 (.tmp 9) (.tmp 25) rfl w5.heap.size 0 (mc R) rfl rfl (mc zeroM) 28 hY5 (by rw [HR.out, Hzs.out]; omega) (by rw [HR.out]; exact size_mach) (mc_one _) ?_; intro w6 hY6 hkeep hsz hbl; clear hsz; rw [Hov.out] at hY6; have hM6 := hkeep w.heap.size _ _ (by omega) hM5; have hb6 := hbl w.heap.size w hge5 hb5; have hX6 := hkeep g1 _ _ (by omega) hX5; clear hkeep hbl hM5 hb5 hY5 hX5) | ((with_reducible show wpList _ _ _ _ _ _); refine wpList_load_blk rfl 28 (.tmp 9) rfl w5.heap.size 0 rfl _ _ hY6 98 (by rw [HR.out]; omega) _ Try.underlying28 rfl size_mach ?_; rw [R1.out]) | ((with_reducible show wpList _ _ _ _ _ _); refine wpList_load_blk rfl 28 (.tmp 7) rfl g1 0 rfl _ _ hX6 98 (by rw [HR.out]; omega) _ Try.underlying28 rfl size_mach ?_; rw [R1.out]) | (go_at_call 20; refine (HE.out _).mono ?_; rintro e w9 ⟨rfl, hc9⟩; have hb9 := below_step hb6 hc9))
  go_ret
  exact ⟨rfl, hb9⟩
end Go.Proofs.Ytkkooafjpancoaa
