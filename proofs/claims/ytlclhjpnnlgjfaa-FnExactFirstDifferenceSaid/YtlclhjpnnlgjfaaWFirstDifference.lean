/- The statement on 'FirstDifference', walked. Written by genscal.py. -/
import Derived.Test.YtlclhjpnnlgjfaaMarks
import Derived.Test.YtlclhjpnnlgjfaaConv
import Derived.Test.YtlclhjpnnlgjfaaFdS
namespace Go.Proofs.Ytlclhjpnnlgjfaa
open Go.RowKit

set_option linter.unusedVariables false in
set_option maxRecDepth 100000 in
set_option maxHeartbeats 4000000 in
theorem lawFirstDifference (M : Mach) (hok : M.Ok) (v1 : Value) (zs1 : List Int) (v2 : Value) (zs2 : List Int) (w : World) (ha1 : ArgI w v1 zs1) (ha2 : ArgI w v2 zs2) :
    Calls Try.prog 6 #[.agg (mc M), v1, v2] w fun e w' => e = .returned (.bool true) ∧ Below w.heap.size w w' := by
  obtain ⟨oa1, ca1, rfl, hb01⟩ := ha1.2; clear hb01
  obtain ⟨oa2, ca2, rfl, hb02⟩ := ha2.2; clear hb02
  by_cases hn1 : zs1.length ≤ 1048576
  rotate_left
  · have hf1 : 1048576 < (zs1.length : Int) := by omega
    go_enter Try.func6, Try.ntmps6
    go_wp2
    go_ret
    exact ⟨rfl, by (repeat (first | exact Below.refl _ _ | refine below_drew' ?_ | refine below_drewN' ?_ _ | refine below_alloc' ?_ _ | refine below_set' ?_ (by (try simp); (try omega)) _ | refine below_step ?_ (by assumption)))⟩
  by_cases hn2 : zs2.length ≤ 1048576
  rotate_left
  · have hf1 : ¬ (1048576 < (zs1.length : Int)) := by omega
    have hf2 : 1048576 < (zs2.length : Int) := by omega
    go_enter Try.func6, Try.ntmps6
    go_wp2
    go_ret
    exact ⟨rfl, by (repeat (first | exact Below.refl _ _ | refine below_drew' ?_ | refine below_drewN' ?_ _ | refine below_alloc' ?_ _ | refine below_set' ?_ (by (try simp); (try omega)) _ | refine below_step ?_ (by assumption)))⟩
  have hf1 : ¬ (1048576 < (zs1.length : Int)) := by omega
  have hf2 : ¬ (1048576 < (zs2.length : Int)) := by omega
  have F1 : Hid (cut (mc M) 0 98 = mc M) := Lib.hid (cut_all _ _ (mc_size hok)); have F2 : Hid (0 + 98 ≤ (mc M).size) := Lib.hid (by rw [mc_size hok]; omega)
  have hB : Blk (w.alloc (.cells (mc M) 25)) w.heap.size (mc M) 25 := Blk.new w _ _
  have hbw0 : Below w.heap.size w (w.alloc (.cells (mc M) 25)) := by (repeat (first | exact Below.refl _ _ | refine below_drew' ?_ | refine below_drewN' ?_ _ | refine below_alloc' ?_ _ | refine below_set' ?_ (by (try simp); (try omega)) _ | refine below_step ?_ (by assumption)))
  have hB_0 := hB; clear hB
  have hA1_0 := ha1.below hbw0
  have hA2_0 := ha2.below hbw0
  clear ha1
  clear ha2
  go_enter Try.func6, Try.ntmps6
  go_wp2_with (first | (with_reducible show wpList _ _ _ _ _ _; refine wpList_load_blk rfl 25 _ rfl w.heap.size 0 rfl (mc M) _ (by first | exact hB_1 | exact hB_0) 98 F2.out _ Try.underlying25 rfl size_lmach ?_; rw [F1.out]) | (go_at_call 8; refine (toMachine_calls M hok _).mono ?_; rintro e w1 ⟨rfl, hb1⟩; have hbw1 := below_step hbw0 hb1; have hB_1 := hB_0.keptAll hb1; have hA1_1 := hA1_0.below hb1; have hA2_1 := hA2_0.below hb1; clear hbw0 hb1 hB_0 hA1_0 hA2_0))
  go_wp2_with (first | (with_reducible show wpList _ _ _ _ _ _; refine wpList_load_blk rfl 25 _ rfl w.heap.size 0 rfl (mc M) _ (by first | exact hB_2 | exact hB_1) 98 F2.out _ Try.underlying25 rfl size_lmach ?_; rw [F1.out]) | (go_at_call 9; refine (toInt64S_calls _ zs1 _ hA1_1 hn1).mono ?_; rintro e w2 ⟨va1, rfl, g_va1, hb2⟩; have hbw2 := below_step hbw1 hb2; have hB_2 := hB_1.keptAll hb2; have hA1_2 := hA1_1.below hb2; have hA2_2 := hA2_1.below hb2; clear hbw1 hb2 hB_1 hA1_1 hA2_1))
  have f_va1_2 := g_va1; clear g_va1
  go_wp2_with (first | (with_reducible show wpList _ _ _ _ _ _; refine wpList_load_blk rfl 25 _ rfl w.heap.size 0 rfl (mc M) _ (by first | exact hB_3 | exact hB_2) 98 F2.out _ Try.underlying25 rfl size_lmach ?_; rw [F1.out]) | (go_at_call 9; refine (toInt64S_calls _ zs2 _ hA2_2 hn2).mono ?_; rintro e w3 ⟨va2, rfl, g_va2, hb3⟩; have hbw3 := below_step hbw2 hb3; have hB_3 := hB_2.keptAll hb3; have hA1_3 := hA1_2.below hb3; have hA2_3 := hA2_2.below hb3; have f_va1_3 := f_va1_2.below hb3; clear hbw2 hb3 hB_2 hA1_2 hA2_2 f_va1_2))
  have f_va2_3 := g_va2; clear g_va2
  go_wp2_with (first | (with_reducible show wpList _ _ _ _ _ _; refine wpList_load_blk rfl 25 _ rfl w.heap.size 0 rfl (mc M) _ (by first | exact hB_4 | exact hB_3) 98 F2.out _ Try.underlying25 rfl size_lmach ?_; rw [F1.out]) | (go_at_call 18; refine (sFirstDifference_calls M hok _ zs1 _ zs2 _ f_va1_3.sees f_va2_3.sees).mono ?_; rintro e w4 ⟨rfl, hb4⟩; have hbw4 := below_step hbw3 hb4; have hB_4 := hB_3.keptAll hb4; have hA1_4 := hA1_3.below hb4; have hA2_4 := hA2_3.below hb4; have f_va1_4 := f_va1_3.below hb4; have f_va2_4 := f_va2_3.below hb4; clear hbw3 hb4 hB_3 hA1_3 hA2_3 f_va1_3 f_va2_3))
  clear f_va1_4
  clear f_va2_4
  go_wp2_with (first | (with_reducible show wpList _ _ _ _ _ _; refine wpList_load_blk rfl 25 _ rfl w.heap.size 0 rfl (mc M) _ (by first | exact hB_5 | exact hB_4) 98 F2.out _ Try.underlying25 rfl size_lmach ?_; rw [F1.out]) | (go_at_call 9; refine (toInt64S_calls _ zs1 _ hA1_4 hn1).mono ?_; rintro e w5 ⟨x1, rfl, g_x1, hb5⟩; have hbw5 := below_step hbw4 hb5; have hB_5 := hB_4.keptAll hb5; have hA1_5 := hA1_4.below hb5; have hA2_5 := hA2_4.below hb5; clear hbw4 hb5 hB_4 hA1_4 hA2_4))
  have f_x1_5 := g_x1; clear g_x1
  go_wp2_with (first | (with_reducible show wpList _ _ _ _ _ _; refine wpList_load_blk rfl 25 _ rfl w.heap.size 0 rfl (mc M) _ (by first | exact hB_6 | exact hB_5) 98 F2.out _ Try.underlying25 rfl size_lmach ?_; rw [F1.out]) | (go_at_call 9; refine (toInt64S_calls _ zs2 _ hA2_5 hn2).mono ?_; rintro e w6 ⟨x2, rfl, g_x2, hb6⟩; have hbw6 := below_step hbw5 hb6; have hB_6 := hB_5.keptAll hb6; have hA1_6 := hA1_5.below hb6; have hA2_6 := hA2_5.below hb6; have f_x1_6 := f_x1_5.below hb6; clear hbw5 hb6 hB_5 hA1_5 hA2_5 f_x1_5))
  have f_x2_6 := g_x2; clear g_x2
  go_wp2_with (first | (with_reducible show wpList _ _ _ _ _ _; refine wpList_load_blk rfl 25 _ rfl w.heap.size 0 rfl (mc M) _ (by first | exact hB_7 | exact hB_6) 98 F2.out _ Try.underlying25 rfl size_lmach ?_; rw [F1.out]) | (go_at_call 8; refine (toMachine_calls M hok _).mono ?_; rintro e w7 ⟨rfl, hb7⟩; have hbw7 := below_step hbw6 hb7; have hB_7 := hB_6.keptAll hb7; have hA1_7 := hA1_6.below hb7; have hA2_7 := hA2_6.below hb7; have f_x1_7 := f_x1_6.below hb7; have f_x2_7 := f_x2_6.below hb7; clear hbw6 hb7 hB_6 hA1_6 hA2_6 f_x1_6 f_x2_6))
  go_wp2_with (first | (with_reducible show wpList _ _ _ _ _ _; refine wpList_load_blk rfl 25 _ rfl w.heap.size 0 rfl (mc M) _ (by first | exact hB_8 | exact hB_7) 98 F2.out _ Try.underlying25 rfl size_lmach ?_; rw [F1.out]) | (go_at_call 19; refine (iFirstDifference_calls M hok _ zs1 _ zs2 _ f_x1_7.sees f_x2_7.sees).mono ?_; rintro e w8 ⟨rfl, hb8⟩; have hbw8 := below_step hbw7 hb8; have hB_8 := hB_7.keptAll hb8; have hA1_8 := hA1_7.below hb8; have hA2_8 := hA2_7.below hb8; have f_x1_8 := f_x1_7.below hb8; have f_x2_8 := f_x2_7.below hb8; clear hbw7 hb8 hB_7 hA1_7 hA2_7 f_x1_7 f_x2_7))
  go_wp2_with (first | (with_reducible show wpList _ _ _ _ _ _; refine wpList_load_blk rfl 25 _ rfl w.heap.size 0 rfl (mc M) _ (by first | exact hB_9 | exact hB_8) 98 F2.out _ Try.underlying25 rfl size_lmach ?_; rw [F1.out]) | (go_at_call 9; refine (toInt64S_calls _ zs1 _ hA1_8 hn1).mono ?_; rintro e w9 ⟨vb1, rfl, g_vb1, hb9⟩; have hbw9 := below_step hbw8 hb9; have hB_9 := hB_8.keptAll hb9; have hA1_9 := hA1_8.below hb9; have hA2_9 := hA2_8.below hb9; have f_x1_9 := f_x1_8.below hb9; have f_x2_9 := f_x2_8.below hb9; clear hbw8 hb9 hB_8 hA1_8 hA2_8 f_x1_8 f_x2_8))
  have f_vb1_9 := g_vb1; clear g_vb1
  go_wp2_with (first | (with_reducible show wpList _ _ _ _ _ _; refine wpList_load_blk rfl 25 _ rfl w.heap.size 0 rfl (mc M) _ (by first | exact hB_10 | exact hB_9) 98 F2.out _ Try.underlying25 rfl size_lmach ?_; rw [F1.out]) | (go_at_call 11; refine (eqInt64S_same x1 vb1 _ _ _ _ f_x1_9 f_vb1_9).mono ?_; rintro e w10 ⟨rfl, hb10⟩; have hbw10 := below_step hbw9 hb10; have hB_10 := hB_9.keptAll hb10; have hA1_10 := hA1_9.below hb10; have hA2_10 := hA2_9.below hb10; have f_x1_10 := f_x1_9.below hb10; have f_x2_10 := f_x2_9.below hb10; have f_vb1_10 := f_vb1_9.below hb10; clear hbw9 hb10 hB_9 hA1_9 hA2_9 f_x1_9 f_x2_9 f_vb1_9))
  clear f_vb1_10
  clear f_x1_10
  go_wp2_with (first | (with_reducible show wpList _ _ _ _ _ _; refine wpList_load_blk rfl 25 _ rfl w.heap.size 0 rfl (mc M) _ (by first | exact hB_11 | exact hB_10) 98 F2.out _ Try.underlying25 rfl size_lmach ?_; rw [F1.out]) | (go_at_call 9; refine (toInt64S_calls _ zs2 _ hA2_10 hn2).mono ?_; rintro e w11 ⟨vb2, rfl, g_vb2, hb11⟩; have hbw11 := below_step hbw10 hb11; have hB_11 := hB_10.keptAll hb11; have hA1_11 := hA1_10.below hb11; have hA2_11 := hA2_10.below hb11; have f_x2_11 := f_x2_10.below hb11; clear hbw10 hb11 hB_10 hA1_10 hA2_10 f_x2_10))
  have f_vb2_11 := g_vb2; clear g_vb2
  go_wp2_with (first | (with_reducible show wpList _ _ _ _ _ _; refine wpList_load_blk rfl 25 _ rfl w.heap.size 0 rfl (mc M) _ (by first | exact hB_12 | exact hB_11) 98 F2.out _ Try.underlying25 rfl size_lmach ?_; rw [F1.out]) | (go_at_call 11; refine (eqInt64S_same x2 vb2 _ _ _ _ f_x2_11 f_vb2_11).mono ?_; rintro e w12 ⟨rfl, hb12⟩; have hbw12 := below_step hbw11 hb12; have hB_12 := hB_11.keptAll hb12; have hA1_12 := hA1_11.below hb12; have hA2_12 := hA2_11.below hb12; have f_x2_12 := f_x2_11.below hb12; have f_vb2_12 := f_vb2_11.below hb12; clear hbw11 hb12 hB_11 hA1_11 hA2_11 f_x2_11 f_vb2_11))
  clear f_vb2_12
  clear f_x2_12
  go_ret
  exact ⟨rfl, hbw12⟩
end Go.Proofs.Ytlclhjpnnlgjfaa
