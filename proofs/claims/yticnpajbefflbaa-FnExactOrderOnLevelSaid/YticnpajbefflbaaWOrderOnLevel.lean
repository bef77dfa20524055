/- The statement on 'OrderOnLevel', walked. Written by genscal.py. -/
import Derived.Test.YticnpajbefflbaaMarks
import Derived.Test.YticnpajbefflbaaConv
import Derived.Test.YticnpajbefflbaaOlS
import Derived.Test.YticnpajbefflbaaOlT
namespace Go.Proofs.Yticnpajbefflbaa
open Go.RowKit

set_option linter.unusedVariables false in
set_option maxRecDepth 100000 in
set_option maxHeartbeats 4000000 in
theorem lawOrderOnLevel (M : Mach) (hok : M.Ok) (v1 : Value) (zs1 : List Int) (k2 : Int) (hk2 : (Lit.int .i64 k2).wf = true) (w : World) (ha1 : ArgI w v1 zs1) :
    Calls Try.prog 3 #[.agg (mc M), v1, .int .i64 k2] w fun e w' => e = .returned (.bool true) ∧ Below w.heap.size w w' := by
  obtain ⟨oa1, ca1, rfl, hb01⟩ := ha1.2; clear hb01
  by_cases hn1 : zs1.length ≤ 1048576
  rotate_left
  · have hf1 : 1048576 < (zs1.length : Int) := by omega
    go_enter Try.func3, Try.ntmps3
    go_wp2
    go_ret
    exact ⟨rfl, by (repeat (first | exact Below.refl _ _ | refine below_drew' ?_ | refine below_drewN' ?_ _ | refine below_alloc' ?_ _ | refine below_set' ?_ (by (try simp); (try omega)) _ | refine below_step ?_ (by assumption)))⟩
  have hf1 : ¬ (1048576 < (zs1.length : Int)) := by omega
  have F1 : Hid (cut (mc M) 0 98 = mc M) := Lib.hid (cut_all _ _ (mc_size hok)); have F2 : Hid (0 + 98 ≤ (mc M).size) := Lib.hid (by rw [mc_size hok]; omega)
  have hB : Blk (w.alloc (.cells (mc M) 25)) w.heap.size (mc M) 25 := Blk.new w _ _
  have hbw0 : Below w.heap.size w (w.alloc (.cells (mc M) 25)) := by (repeat (first | exact Below.refl _ _ | refine below_drew' ?_ | refine below_drewN' ?_ _ | refine below_alloc' ?_ _ | refine below_set' ?_ (by (try simp); (try omega)) _ | refine below_step ?_ (by assumption)))
  have hB_0 := hB; clear hB
  have hA1_0 := ha1.below hbw0
  clear ha1
  go_enter Try.func3, Try.ntmps3
  go_wp2_with (first | (with_reducible show wpList _ _ _ _ _ _; refine wpList_load_blk rfl 25 _ rfl w.heap.size 0 rfl (mc M) _ (by first | exact hB_1 | exact hB_0) 98 F2.out _ Try.underlying25 rfl size_lmach ?_; rw [F1.out]) | (go_at_call 10; refine (toMachine_calls M hok _).mono ?_; rintro e w1 ⟨rfl, hb1⟩; have hbw1 := below_step hbw0 hb1; have hB_1 := hB_0.keptAll hb1; have hA1_1 := hA1_0.below hb1; clear hbw0 hb1 hB_0 hA1_0))
  go_wp2_with (first | (with_reducible show wpList _ _ _ _ _ _; refine wpList_load_blk rfl 25 _ rfl w.heap.size 0 rfl (mc M) _ (by first | exact hB_2 | exact hB_1) 98 F2.out _ Try.underlying25 rfl size_lmach ?_; rw [F1.out]) | (go_at_call 11; refine (toInt64S_calls _ zs1 _ hA1_1 hn1).mono ?_; rintro e w2 ⟨va1, rfl, g_va1, hb2⟩; have hbw2 := below_step hbw1 hb2; have hB_2 := hB_1.keptAll hb2; have hA1_2 := hA1_1.below hb2; clear hbw1 hb2 hB_1 hA1_1))
  have f_va1_2 := g_va1; clear g_va1
  go_wp2_with (first | (with_reducible show wpList _ _ _ _ _ _; refine wpList_load_blk rfl 25 _ rfl w.heap.size 0 rfl (mc M) _ (by first | exact hB_3 | exact hB_2) 98 F2.out _ Try.underlying25 rfl size_lmach ?_; rw [F1.out]) | (go_at_call 9; refine (sOrderOnLevel_calls M hok _ zs1 k2 _ f_va1_2.sees).mono ?_; rintro e w3 ⟨rfl, hb3⟩; have hbw3 := below_step hbw2 hb3; have hB_3 := hB_2.keptAll hb3; have hA1_3 := hA1_2.below hb3; have f_va1_3 := f_va1_2.below hb3; clear hbw2 hb3 hB_2 hA1_2 f_va1_2))
  clear f_va1_3
  go_wp2_with (first | (with_reducible show wpList _ _ _ _ _ _; refine wpList_load_blk rfl 25 _ rfl w.heap.size 0 rfl (mc M) _ (by first | exact hB_4 | exact hB_3) 98 F2.out _ Try.underlying25 rfl size_lmach ?_; rw [F1.out]) | (go_at_call 11; refine (toInt64S_calls _ zs1 _ hA1_3 hn1).mono ?_; rintro e w4 ⟨x1, rfl, g_x1, hb4⟩; have hbw4 := below_step hbw3 hb4; have hB_4 := hB_3.keptAll hb4; have hA1_4 := hA1_3.below hb4; clear hbw3 hb4 hB_3 hA1_3))
  have f_x1_4 := g_x1; clear g_x1
  go_wp2_with (first | (with_reducible show wpList _ _ _ _ _ _; refine wpList_load_blk rfl 25 _ rfl w.heap.size 0 rfl (mc M) _ (by first | exact hB_5 | exact hB_4) 98 F2.out _ Try.underlying25 rfl size_lmach ?_; rw [F1.out]) | (go_at_call 10; refine (toMachine_calls M hok _).mono ?_; rintro e w5 ⟨rfl, hb5⟩; have hbw5 := below_step hbw4 hb5; have hB_5 := hB_4.keptAll hb5; have hA1_5 := hA1_4.below hb5; have f_x1_5 := f_x1_4.below hb5; clear hbw4 hb5 hB_4 hA1_4 f_x1_4))
  go_wp2_with (first | (with_reducible show wpList _ _ _ _ _ _; refine wpList_load_blk rfl 25 _ rfl w.heap.size 0 rfl (mc M) _ (by first | exact hB_6 | exact hB_5) 98 F2.out _ Try.underlying25 rfl size_lmach ?_; rw [F1.out]) | (go_at_call 12; refine (iOrderOnLevel_calls M hok _ zs1 k2 _ f_x1_5.sees).mono ?_; rintro e w6 ⟨rfl, hb6⟩; have hbw6 := below_step hbw5 hb6; have hB_6 := hB_5.keptAll hb6; have hA1_6 := hA1_5.below hb6; have f_x1_6 := f_x1_5.below hb6; clear hbw5 hb6 hB_5 hA1_5 f_x1_5))
  go_wp2_with (first | (with_reducible show wpList _ _ _ _ _ _; refine wpList_load_blk rfl 25 _ rfl w.heap.size 0 rfl (mc M) _ (by first | exact hB_7 | exact hB_6) 98 F2.out _ Try.underlying25 rfl size_lmach ?_; rw [F1.out]) | (go_at_call 11; refine (toInt64S_calls _ zs1 _ hA1_6 hn1).mono ?_; rintro e w7 ⟨vb1, rfl, g_vb1, hb7⟩; have hbw7 := below_step hbw6 hb7; have hB_7 := hB_6.keptAll hb7; have hA1_7 := hA1_6.below hb7; have f_x1_7 := f_x1_6.below hb7; clear hbw6 hb7 hB_6 hA1_6 f_x1_6))
  have f_vb1_7 := g_vb1; clear g_vb1
  go_wp2_with (first | (with_reducible show wpList _ _ _ _ _ _; refine wpList_load_blk rfl 25 _ rfl w.heap.size 0 rfl (mc M) _ (by first | exact hB_8 | exact hB_7) 98 F2.out _ Try.underlying25 rfl size_lmach ?_; rw [F1.out]) | (go_at_call 13; refine (eqInt64S_same x1 vb1 _ _ _ _ f_x1_7 f_vb1_7).mono ?_; rintro e w8 ⟨rfl, hb8⟩; have hbw8 := below_step hbw7 hb8; have hB_8 := hB_7.keptAll hb8; have hA1_8 := hA1_7.below hb8; have f_x1_8 := f_x1_7.below hb8; have f_vb1_8 := f_vb1_7.below hb8; clear hbw7 hb8 hB_7 hA1_7 f_x1_7 f_vb1_7))
  clear f_vb1_8
  clear f_x1_8
  go_ret
  exact ⟨rfl, hbw8⟩
end Go.Proofs.Yticnpajbefflbaa
