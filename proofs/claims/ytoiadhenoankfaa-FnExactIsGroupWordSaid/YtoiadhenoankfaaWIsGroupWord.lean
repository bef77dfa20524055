/- The statement on 'IsGroupWord', walked. -/
import Derived.Test.YtoiadhenoankfaaGrpS
import Derived.Test.YtoiadhenoankfaaMarks
import Derived.Test.YtoiadhenoankfaaConv
namespace Go.Proofs.Ytoiadhenoankfaa
open Go.RowKit

set_option maxRecDepth 100000 in
set_option maxHeartbeats 1000000 in
theorem lawIsGroupWord (M : Mach) (hok : M.Ok) (v1 : Value) (zs1 : List Int) (w : World) (ha : ArgI w v1 zs1) :
    Calls Try.prog 3 #[.agg (mc M), v1] w fun e w' => e = .returned (.bool true) ∧ Below w.heap.size w w' := by
  obtain ⟨oa, ca, rfl, hb0⟩ := ha.2; clear hb0
  by_cases hn : zs1.length ≤ 1048576
  · have hf : ¬ (1048576 < (zs1.length : Int)) := by omega
    have F1 : Hid (cut (mc M) 0 98 = mc M) := Lib.hid (cut_all _ _ (mc_size hok)); have F2 : Hid (0 + 98 ≤ (mc M).size) := Lib.hid (by rw [mc_size hok]; omega)
    have hB : Blk (w.alloc (.cells (mc M) 25)) w.heap.size (mc M) 25 := Blk.new w _ _
    have hbw0 : Below w.heap.size w (w.alloc (.cells (mc M) 25)) := by (repeat (first | exact Below.refl _ _ | refine below_drew' ?_ | refine below_drewN' ?_ _ | refine below_alloc' ?_ _ | refine below_set' ?_ (by (try simp); (try omega)) _ | refine below_step ?_ (by assumption)))
    have hA0 := ha.below hbw0
    clear ha
    go_enter Try.func3, Try.ntmps3
    go_wp2_with (first | (with_reducible show wpList _ _ _ _ _ _; refine wpList_load_blk rfl 25 _ rfl w.heap.size 0 rfl (mc M) _ (hB) 98 F2.out _ Try.underlying25 rfl size_lmach ?_; rw [F1.out]) | (go_at_call 11; refine (toMachine_calls M hok _).mono ?_; rintro e w1 ⟨rfl, hb1⟩; have hB1 := hB.keptAll hb1; have hA1 := hA0.below hb1; have hbw1 := below_step hbw0 hb1))
    clear hB hA0 hbw0
    go_wp2_with (go_at_call 12; refine (toInt64S_calls _ zs1 _ hA1 hn).mono ?_; rintro e w2 ⟨va, rfl, fa, hb2⟩; have hB2 := hB1.keptAll hb2; have hA2 := hA1.below hb2; have hbw2 := below_step hbw1 hb2)
    clear hB1 hA1 hbw1 hb1
    go_wp2_with (go_at_call 10; refine (sIsGroupWord_calls M hok _ zs1 _ fa.sees).mono ?_; rintro e w3 ⟨rfl, hb3⟩; have hB3 := hB2.keptAll hb3; have hA3 := hA2.below hb3; have hbw3 := below_step hbw2 hb3)
    clear hB2 hA2 hbw2 hb2 fa
    go_wp2_with (first | (with_reducible show wpList _ _ _ _ _ _; refine wpList_load_blk rfl 25 _ rfl w.heap.size 0 rfl (mc M) _ (hB4) 98 F2.out _ Try.underlying25 rfl size_lmach ?_; rw [F1.out]) | (go_at_call 12; refine (toInt64S_calls _ zs1 _ hA3 hn).mono ?_; rintro e w4 ⟨x1, rfl, fx, hb4⟩; have hB4 := hB3.keptAll hb4; have hA4 := hA3.below hb4; have hbw4 := below_step hbw3 hb4))
    clear hB3 hA3 hbw3 hb3
    go_wp2_with (first | (with_reducible show wpList _ _ _ _ _ _; refine wpList_load_blk rfl 25 _ rfl w.heap.size 0 rfl (mc M) _ (hB4) 98 F2.out _ Try.underlying25 rfl size_lmach ?_; rw [F1.out]) | (go_at_call 11; refine (toMachine_calls M hok _).mono ?_; rintro e w5 ⟨rfl, hb5⟩; have fx5 := fx.below hb5; have hA5 := hA4.below hb5; have hbw5 := below_step hbw4 hb5))
    clear hB4 hA4 hbw4 hb4 fx
    go_wp2_with (go_at_call 13; refine (IsGroupWord_calls M hok _ zs1 _ fx5.sees).mono ?_; rintro e w6 ⟨rfl, hb6⟩; have fx6 := fx5.below hb6; have hA6 := hA5.below hb6; have hbw6 := below_step hbw5 hb6)
    clear hA5 hbw5 hb5 fx5
    go_wp2_with (go_at_call 12; refine (toInt64S_calls _ zs1 _ hA6 hn).mono ?_; rintro e w7 ⟨vb, rfl, fb, hb7⟩; have fx7 := fx6.below hb7; have hbw7 := below_step hbw6 hb7)
    clear hA6 hbw6 hb6 fx6
    go_wp2_with (go_at_call 14; refine (eqInt64S_same x1 vb _ _ _ _ fx7 fb).mono ?_; rintro e w8 ⟨rfl, hb8⟩; have hbw8 := below_step hbw7 hb8)
    go_ret
    exact ⟨rfl, hbw8⟩
  · have hf : 1048576 < (zs1.length : Int) := by omega
    go_enter Try.func3, Try.ntmps3
    go_wp2
    go_ret
    exact ⟨rfl, by (repeat (first | exact Below.refl _ _ | refine below_drew' ?_ | refine below_drewN' ?_ _ | refine below_alloc' ?_ _ | refine below_set' ?_ (by (try simp); (try omega)) _ | refine below_step ?_ (by assumption)))⟩
end Go.Proofs.Ytoiadhenoankfaa
