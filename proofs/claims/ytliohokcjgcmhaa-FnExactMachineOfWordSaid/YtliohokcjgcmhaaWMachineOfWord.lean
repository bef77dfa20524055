/- The statement on 'MachineOfWord', walked. -/
import Derived.Test.YtliohokcjgcmhaaMarks
import Derived.Test.YtliohokcjgcmhaaConv
import Derived.Test.YtliohokcjgcmhaaEqB
import Derived.Test.YtliohokcjgcmhaaMwN
namespace Go.Proofs.Ytliohokcjgcmhaa
open Go.RowKit

set_option linter.unusedVariables false in
set_option maxRecDepth 100000 in
set_option maxHeartbeats 4000000 in
theorem lawMachineOfWord (M : Mach) (hok : M.Ok) (v1 : Value) (zs1 : List Int) (w : World) (ha1 : ArgI w v1 zs1) :
    Calls Try.prog 3 #[.agg (mc M), v1] w fun e w' => e = .returned (.bool true) ∧ Below w.heap.size w w' := by
  have hz := zero_mach
  obtain ⟨oa1, ca1, rfl, hb01⟩ := ha1.2; clear hb01
  by_cases hn1 : zs1.length ≤ 1048576
  rotate_left
  · have hf1 : 1048576 < (zs1.length : Int) := by omega
    go_enter Try.func3, Try.ntmps3
    go_wp2
    go_ret
    exact ⟨rfl, by (repeat (first | exact Below.refl _ _ | refine below_drew' ?_ | refine below_drewN' ?_ _ | refine below_alloc' ?_ _ | refine below_set' ?_ (by (try simp); (try omega)) _ | refine below_step ?_ (by assumption)))⟩
  have hf1 : ¬ (1048576 < (zs1.length : Int)) := by omega
  have HtM := Lib.hid (fun W => toMachine_calls M hok W)
  have HS := Lib.hid (fun V W hW => sMachineOfWord_calls M hok V zs1 W hW)
  have HI := Lib.hid (fun V W hW => iMachineOfWord_calls M hok V zs1 W hW)
  have hRok := mwR_ok hok zs1
  generalize mwR M zs1 = R at *
  generalize mwC M zs1 = c at *
  have HE := Lib.hid (fun W => eqMachine_same R hRok W)
  have HR := Lib.hid (mc_size hRok)
  have Hzs := Lib.hid (mc_size zeroM_ok)
  have Hov : Hid (over (mc zeroM) 0 (mc R) = mc R) := Lib.hid (over_all _ _ (by rw [HR.out, Hzs.out]))
  have R1 : Hid (cut (mc R) 0 98 = mc R) := Lib.hid (cut_all _ _ HR.out)
  clear hRok
  have F1 : Hid (cut (mc M) 0 98 = mc M) := Lib.hid (cut_all _ _ (mc_size hok)); have F2 : Hid (0 + 98 ≤ (mc M).size) := Lib.hid (by rw [mc_size hok]; omega)
  have hB : Blk (w.alloc (.cells (mc M) 25)) w.heap.size (mc M) 25 := Blk.new w _ _
  have hbw0 : Below w.heap.size w (w.alloc (.cells (mc M) 25)) := by (repeat (first | exact Below.refl _ _ | refine below_drew' ?_ | refine below_drewN' ?_ _ | refine below_alloc' ?_ _ | refine below_set' ?_ (by (try simp); (try omega)) _ | refine below_step ?_ (by assumption)))
  have hB_0 := hB; clear hB
  have Ha1 := Lib.hid ha1
  clear ha1
  go_enter Try.func3, Try.ntmps3
  go_wp2_with (first | (with_reducible show wpList _ _ _ _ _ _; refine wpList_load_blk rfl 25 _ rfl w.heap.size 0 rfl (mc M) _ (by first | exact hB_1 | exact hB_0) 98 F2.out _ Try.underlying25 rfl size_lmach ?_; rw [F1.out]) | (go_at_call 16; refine (HtM.out _).mono ?_; rintro e w1 ⟨rfl, hb1⟩; have hbw1 := below_step hbw0 hb1; have hB_1 := hB_0.keptAll hb1; clear hbw0 hb1 hB_0))
  go_wp2_with (first | (with_reducible show wpList _ _ _ _ _ _; refine wpList_load_blk rfl 25 _ rfl w.heap.size 0 rfl (mc M) _ (by first | exact hB_2 | exact hB_1) 98 F2.out _ Try.underlying25 rfl size_lmach ?_; rw [F1.out]) | (go_at_call 17; refine (toInt64S_calls _ zs1 _ (Ha1.out.below hbw1) hn1).mono ?_; rintro e w2 ⟨va1, rfl, g_va1, hb2⟩; have hbw2 := below_step hbw1 hb2; have hB_2 := hB_1.keptAll hb2; clear hbw1 hb2 hB_1))
  go_wp2_with (first | (with_reducible show wpList _ _ _ _ _ _; refine wpList_load_blk rfl 25 _ rfl w.heap.size 0 rfl (mc M) _ (by first | exact hB_5 | exact hB_2) 98 F2.out _ Try.underlying25 rfl size_lmach ?_; rw [F1.out]) | (go_at_call 15; refine (HS.out _ _ g_va1.sees).mono ?_; rintro e w3 ⟨rfl, hb3⟩; have hbw3' := below_step hbw2 hb3; have hge3 := hbw3'.size; have hlt3 := (hB_2.keptAll hb3).lt; have hB_3 := (hB_2.keptAll hb3).alloc (.cells (mc zeroM) 27); have hbw3 := below_alloc' hbw3' (.cells (mc zeroM) 27); have hX_3 : Blk (w3.alloc (.cells (mc zeroM) 27)) w3.heap.size (mc zeroM) 27 := Blk.new _ _ _; clear hbw2 hb3 hB_2 hbw3') | ((with_reducible show wpList _ _ _ _ _ _); refine wpList_store_row rfl 27 (.tmp 5) _ rfl w3.heap.size 0 (mc R) rfl rfl _ _ hX_3 (by rw [HR.out, Hzs.out]; omega) (by rw [HR.out]; exact size_mach) (mc_one _) _ Hov.out ?_; intro w4 hs4; have hX_4 := hs4.blk; have hB_4 := hs4.keep (by omega) hB_3; have hbw4 := hs4.below _ _ hge3 hbw3; clear hs4 hX_3 hB_3 hbw3) | (go_at_call 17; refine (toInt64S_calls _ zs1 _ (Ha1.out.below hbw4) hn1).mono ?_; rintro e w5 ⟨x1, rfl, f_x1_5, hb5⟩; have hbw5 := below_step hbw4 hb5; have hB_5 := hB_4.keptAll hb5; have hX_5 := hX_4.keptAll hb5; have lt_x1 := Lib.hid (World.ownsRow.lt f_x1_5); have hsz5 := hb5.size; clear hbw4 hb5 hB_4 hX_4))
  obtain ⟨g1, hg1⟩ : ∃ g, w3.heap.size = g := ⟨_, rfl⟩
  rw [hg1] at hX_5 hlt3 ⊢
  clear hg1 hge3 g_va1
  go_wp2_with (first | (with_reducible show wpList _ _ _ _ _ _; refine wpList_load_blk rfl 25 _ rfl w.heap.size 0 rfl (mc M) _ (by first | exact hB_6 | exact hB_5) 98 F2.out _ Try.underlying25 rfl size_lmach ?_; rw [F1.out]) | (go_at_call 16; refine (HtM.out _).mono ?_; rintro e w6 ⟨rfl, hb6⟩; have hbw6 := below_step hbw5 hb6; have hB_6 := hB_5.keptAll hb6; have hX_6 := hX_5.keptAll hb6; have f_x1_6 := f_x1_5.below hb6; have hsz6 := hb6.size; clear hbw5 hb6 hB_5 hX_5 f_x1_5) | (go_at_call 18; refine (HI.out _ _ f_x1_6.sees).mono ?_; rintro e w7 ⟨rfl, hb7⟩; have hbw7' := below_step hbw6 hb7; have hge7 := hbw7'.size; have hsz7 := hb7.size; have hlx7 := (hX_6.keptAll hb7).lt; have hB_7 := (hB_6.keptAll hb7).alloc (.cells (mc zeroM) 27); have hX_7 := (hX_6.keptAll hb7).alloc (.cells (mc zeroM) 27); have f_x1_7 := (f_x1_6.below hb7).below (w1 := w7.alloc (.cells (mc zeroM) 27)) (by (repeat (first | exact Below.refl _ _ | refine below_drew' ?_ | refine below_drewN' ?_ _ | refine below_alloc' ?_ _ | refine below_set' ?_ (by (try simp); (try omega)) _ | refine below_step ?_ (by assumption)))); have hbw7 := below_alloc' hbw7' (.cells (mc zeroM) 27); have hY_7 : Blk (w7.alloc (.cells (mc zeroM) 27)) w7.heap.size (mc zeroM) 27 := Blk.new _ _ _; clear hbw6 hb7 hB_6 hX_6 f_x1_6 hbw7') | ((with_reducible show wpList _ _ _ _ _ _); refine wpList_store_row rfl 27 (.tmp 8) _ rfl w7.heap.size 0 (mc R) rfl rfl _ _ hY_7 (by rw [HR.out, Hzs.out]; omega) (by rw [HR.out]; exact size_mach) (mc_one _) _ Hov.out ?_; intro w8 hs8; have hY_8 := hs8.blk; have hX_8 := hs8.keep (by omega) hX_7; have hbw8 := hs8.below _ _ hge7 hbw7; have f_x1_8 : OwnI w8 w4.heap.size x1 zs1 := owns_same f_x1_7 (fun k hk => hs8.other k (by have := (lt_x1.out k hk).2; omega)); clear hs8 hY_7 hX_7 hB_7 hbw7 f_x1_7) | ((with_reducible show wpList _ _ _ _ _ _); refine wpList_load_blk rfl 27 (.tmp 8) rfl w7.heap.size 0 rfl _ _ hY_8 98 (by rw [HR.out]; omega) _ Try.underlying27 rfl size_mach ?_; rw [R1.out]) | ((with_reducible show wpList _ _ _ _ _ _); refine wpList_load_blk rfl 27 (.tmp 5) rfl g1 0 rfl _ _ hX_8 98 (by rw [HR.out]; omega) _ Try.underlying27 rfl size_mach ?_; rw [R1.out]) | (go_at_call 19; refine (HE.out _).mono ?_; rintro e w9 ⟨rfl, hc9⟩; have hbw9 := below_step hbw8 hc9; have f_x1_9 := f_x1_8.below hc9; clear hbw8 hc9 f_x1_8) | (go_at_call 17; refine (toInt64S_calls _ zs1 _ (Ha1.out.below hbw9) hn1).mono ?_; rintro e w10 ⟨vb1, rfl, f_vb1, hb10⟩; have hbw10 := below_step hbw9 hb10; have f_x1_10 := f_x1_9.below hb10; clear hbw9 hb10 f_x1_9) | (go_at_call 20; refine (eqInt64S_same x1 vb1 _ _ _ _ f_x1_10 f_vb1).mono ?_; rintro e w11 ⟨rfl, hb11⟩; have hbw11 := below_step hbw10 hb11))
  go_ret
  exact ⟨rfl, hbw11⟩
end Go.Proofs.Ytliohokcjgcmhaa
