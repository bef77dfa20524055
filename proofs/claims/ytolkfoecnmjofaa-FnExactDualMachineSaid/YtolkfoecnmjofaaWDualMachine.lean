/- The statement on 'DualMachine', walked. -/
import Derived.Test.YtolkfoecnmjofaaDuI
import Derived.Test.YtolkfoecnmjofaaEqB
namespace Go.Proofs.Ytolkfoecnmjofaa
open Go.RowKit

set_option maxRecDepth 100000 in
set_option maxHeartbeats 2000000 in
theorem lawDualMachine (M : Mach) (hok : M.Ok) (w : World) :
    Calls Try.prog 5 #[.agg (mc M)] w fun e w' => e = .returned (.bool true) ∧ Below w.heap.size w w' := by
  have hz := zero_mach
  have hRok := dualR_ok hok
  obtain ⟨R, hR⟩ : ∃ R, dualR M = R := ⟨_, rfl⟩
  obtain ⟨c, hc⟩ : ∃ c, dualC M = c := ⟨_, rfl⟩
  rw [hR] at hRok
  have hi := fun W => iDualMachine_calls M hok W
  have hs := fun W => sDualMachine_calls M hok W
  simp only [hR, hc] at hi hs
  have Hi := Lib.hid hi; have Hs := Lib.hid hs; clear hi hs hR hc
  have HR := Lib.hid (mc_size hRok)
  have Hzs := Lib.hid (mc_size zeroM_ok)
  have Hov : Hid (over (mc zeroM) 0 (mc R) = mc R) := Lib.hid (over_all _ _ (by rw [HR.out, Hzs.out]))
  have R1 : Hid (cut (mc R) 0 98 = mc R) := Lib.hid (cut_all _ _ HR.out)
  have F1 : Hid (cut (mc M) 0 98 = mc M) := Lib.hid (cut_all _ _ (mc_size hok)); have F2 : Hid (0 + 98 ≤ (mc M).size) := Lib.hid (by rw [mc_size hok]; omega)
  have hB : Blk (w.alloc (.cells (mc M) 25)) w.heap.size (mc M) 25 := Blk.new w _ _
  have hbw0 : Below w.heap.size w (w.alloc (.cells (mc M) 25)) := by (repeat (first | exact Below.refl _ _ | refine below_drew' ?_ | refine below_drewN' ?_ _ | refine below_alloc' ?_ _ | refine below_set' ?_ (by (try simp); (try omega)) _ | refine below_step ?_ (by assumption)))
  go_enter Try.func5, Try.ntmps5
  go_wp2_with (first | (with_reducible show wpList _ _ _ _ _ _; refine wpList_load_blk rfl 25 _ rfl w.heap.size 0 rfl (mc M) _ (hB) 98 F2.out _ Try.underlying25 rfl size_lmach ?_; rw [F1.out]) | (go_at_call 14; refine (toMachine_calls M hok _).mono ?_; rintro e w1 ⟨rfl, hb1⟩; have hB1 := hB.keptAll hb1; have hbw1 := below_step hbw0 hb1) | (go_at_call 18; refine (Hs.out _).mono ?_; rintro e w2 ⟨rfl, hb2⟩; have hB2 := (hB1.keptAll hb2).alloc (.cells (mc zeroM) 28); have hbw2 := below_alloc' (below_step hbw1 hb2) (.cells (mc zeroM) 28); have hX : Blk (w2.alloc (.cells (mc zeroM) 28)) w2.heap.size (mc zeroM) 28 := Blk.new w2 _ _; have hlt2 := (hB1.keptAll hb2).lt) | (with_reducible show wpList _ _ _ _ _ _; refine wpList_store_blk rfl 28 (.tmp 3) (.tmp 11) rfl w2.heap.size 0 (mc R) rfl rfl (mc zeroM) _ hX (by rw [HR.out, Hzs.out]; omega) (by rw [HR.out]; exact size_mach) (mc_one _) ?_; intro w3 hX3 hkeep _ hbl; rw [Hov.out] at hX3; have hB3 := hkeep _ _ _ (by omega) hB2; have hbw3 := hbl _ _ (by omega) hbw2; have hlt3 := hX3.lt; clear hkeep hbl) | (with_reducible show wpList _ _ _ _ _ _; refine wpList_load_blk rfl 25 _ rfl w.heap.size 0 rfl (mc M) _ hB3 98 F2.out _ Try.underlying25 rfl size_lmach ?_; rw [F1.out]))
  go_wp2_with (first | (go_at_call 14; refine (toMachine_calls M hok _).mono ?_; rintro e w4 ⟨rfl, hb4⟩; have hX4 := hX3.keptAll hb4; have hbw4 := below_step hbw3 hb4) | (go_at_call 19; refine (Hi.out _).mono ?_; rintro e w5 ⟨rfl, hb5⟩; have hX5 := (hX4.keptAll hb5).alloc (.cells (mc zeroM) 28); have hbw5 := below_alloc' (below_step hbw4 hb5) (.cells (mc zeroM) 28); have hY : Blk (w5.alloc (.cells (mc zeroM) 28)) w5.heap.size (mc zeroM) 28 := Blk.new w5 _ _; have hlt5 := (hX4.keptAll hb5).lt) | (with_reducible show wpList _ _ _ _ _ _; refine wpList_store_blk rfl 28 (.tmp 5) (.tmp 17) rfl w5.heap.size 0 (mc R) rfl rfl (mc zeroM) _ hY (by rw [HR.out, Hzs.out]; omega) (by rw [HR.out]; exact size_mach) (mc_one _) ?_; intro w6 hY6 hkeep _ hbl; rw [Hov.out] at hY6; have hX6 := hkeep _ _ _ (by omega) hX5; have hbw6 := hbl _ _ (by omega) hbw5; clear hkeep hbl) | (with_reducible show wpList _ _ _ _ _ _; refine wpList_load_blk rfl 28 (.tmp 5) rfl w5.heap.size 0 rfl (mc R) _ hY6 98 (by rw [HR.out]; omega) _ Try.underlying28 rfl size_mach ?_; rw [R1.out]) | (with_reducible show wpList _ _ _ _ _ _; refine wpList_load_blk rfl 28 (.tmp 3) rfl w2.heap.size 0 rfl (mc R) _ hX6 98 (by rw [HR.out]; omega) _ Try.underlying28 rfl size_mach ?_; rw [R1.out]) | (go_at_call 20; refine (eqMachine_same R hRok _).mono ?_; rintro e w7 ⟨rfl, hb7⟩))
  go_ret
  exact ⟨rfl, below_step hbw6 hb7⟩
end Go.Proofs.Ytolkfoecnmjofaa
