/- The statement on 'IsPortrait', walked. Written by genscal.py. -/
import Derived.Test.YtgcieocknlhjlacMarks
import Derived.Test.YtgcieocknlhjlacPtI
import Derived.Test.YtgcieocknlhjlacPtS
namespace Go.Proofs.Ytgcieocknlhjlac
open Go.RowKit

set_option linter.unusedVariables false in
set_option maxRecDepth 100000 in
set_option maxHeartbeats 4000000 in
theorem lawIsPortrait (k0 : Int) (hk0 : (Lit.int .i64 k0).wf = true) (k1 : Int) (hk1 : (Lit.int .i64 k1).wf = true) (v2 : Value) (zs2 : List Int) (w : World) (ha2 : ArgI w v2 zs2) :
    Calls Try.prog 3 #[.int .i64 k0, .int .i64 k1, v2] w fun e w' => e = .returned (.bool true) ∧ Below w.heap.size w w' := by
  obtain ⟨oa2, ca2, rfl, hb02⟩ := ha2.2; clear hb02
  by_cases hn2 : zs2.length ≤ 1048576
  rotate_left
  · have hf2 : 1048576 < (zs2.length : Int) := by omega
    go_enter Try.func3, Try.ntmps3
    go_wp2
    go_ret
    exact ⟨rfl, by (repeat (first | exact Below.refl _ _ | refine below_drew' ?_ | refine below_drewN' ?_ _ | refine below_alloc' ?_ _ | refine below_set' ?_ (by (try simp); (try omega)) _ | refine below_step ?_ (by assumption)))⟩
  have hf2 : ¬ (1048576 < (zs2.length : Int)) := by omega
  have hbw0 : Below w.heap.size w w := Below.refl _ _
  have hA2_0 := ha2
  clear ha2
  go_enter Try.func3, Try.ntmps3
  go_wp2_with (first | (go_at_call 6; refine (toInt64S_calls _ zs2 _ hA2_0 hn2).mono ?_; rintro e w1 ⟨va2, rfl, g_va2, hb1⟩; have hbw1 := below_step hbw0 hb1; have hA2_1 := hA2_0.below hb1; clear hbw0 hb1 hA2_0))
  have f_va2_1 := g_va2; clear g_va2
  go_wp2_with (first | (go_at_call 5; refine (sIsPortrait_calls k0 k1 _ zs2 _ f_va2_1.sees).mono ?_; rintro e w2 ⟨rfl, hb2⟩; have hbw2 := below_step hbw1 hb2; have hA2_2 := hA2_1.below hb2; have f_va2_2 := f_va2_1.below hb2; clear hbw1 hb2 hA2_1 f_va2_1))
  clear f_va2_2
  go_wp2_with (first | (go_at_call 6; refine (toInt64S_calls _ zs2 _ hA2_2 hn2).mono ?_; rintro e w3 ⟨x2, rfl, g_x2, hb3⟩; have hbw3 := below_step hbw2 hb3; have hA2_3 := hA2_2.below hb3; clear hbw2 hb3 hA2_2))
  have f_x2_3 := g_x2; clear g_x2
  go_wp2_with (first | (go_at_call 7; refine (iIsPortrait_calls k0 k1 _ zs2 _ f_x2_3.sees).mono ?_; rintro e w4 ⟨rfl, hb4⟩; have hbw4 := below_step hbw3 hb4; have hA2_4 := hA2_3.below hb4; have f_x2_4 := f_x2_3.below hb4; clear hbw3 hb4 hA2_3 f_x2_3))
  go_wp2_with (first | (go_at_call 6; refine (toInt64S_calls _ zs2 _ hA2_4 hn2).mono ?_; rintro e w5 ⟨vb2, rfl, g_vb2, hb5⟩; have hbw5 := below_step hbw4 hb5; have hA2_5 := hA2_4.below hb5; have f_x2_5 := f_x2_4.below hb5; clear hbw4 hb5 hA2_4 f_x2_4))
  have f_vb2_5 := g_vb2; clear g_vb2
  go_wp2_with (first | (go_at_call 8; refine (eqInt64S_same x2 vb2 _ _ _ _ f_x2_5 f_vb2_5).mono ?_; rintro e w6 ⟨rfl, hb6⟩; have hbw6 := below_step hbw5 hb6; have hA2_6 := hA2_5.below hb6; have f_x2_6 := f_x2_5.below hb6; have f_vb2_6 := f_vb2_5.below hb6; clear hbw5 hb6 hA2_5 f_x2_5 f_vb2_5))
  clear f_vb2_6
  clear f_x2_6
  go_ret
  exact ⟨rfl, hbw6⟩
end Go.Proofs.Ytgcieocknlhjlac
