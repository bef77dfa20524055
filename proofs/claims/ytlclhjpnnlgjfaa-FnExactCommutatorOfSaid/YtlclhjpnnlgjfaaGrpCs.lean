/- 'CommutatorOf' of the model. -/
import Derived.Test.YtlclhjpnnlgjfaaGrpC
namespace Go.Proofs.Ytlclhjpnnlgjfaa
open Go.RowKit

set_option maxRecDepth 100000 in
set_option maxHeartbeats 4000000 in
theorem sCommutatorOf_calls (M : Mach) (hok : M.Ok) (v1 : Value) (zs1 : List Int) (v2 : Value) (zs2 : List Int) (w : World) (hv1 : SeesI w v1 zs1) (hv2 : SeesI w v2 zs2) :
    Calls Try.prog 16 #[.agg (mc M), v1, v2] w fun e w' => ∃ vr, e = .returned (.tuple #[vr, .int .i64 (comC M zs1 zs2)]) ∧ OwnI w' w.heap.size vr (comR M zs1 zs2) ∧ Below w.heap.size w w' := by
  obtain ⟨oa1, ca1, rfl, q1⟩ := hv1.view
  obtain ⟨oa2, ca2, rfl, q2⟩ := hv2.view
  clear q1 q2
  have F1 : Hid (cut (mc M) 0 98 = mc M) := Lib.hid (cut_all _ _ (mc_size hok)); have F2 : Hid (0 + 98 ≤ (mc M).size) := Lib.hid (by rw [mc_size hok]; omega)
  have hB : Blk (w.alloc (.cells (mc M) 29)) w.heap.size (mc M) 29 := Blk.new w _ _
  have hbw0 : Below w.heap.size w (w.alloc (.cells (mc M) 29)) := by (repeat (first | exact Below.refl _ _ | refine below_drew' ?_ | refine below_drewN' ?_ _ | refine below_alloc' ?_ _ | refine below_set' ?_ (by (try simp); (try omega)) _ | refine below_step ?_ (by assumption)))
  have hv1B := hv1.below hbw0
  have hv2B := hv2.below hbw0
  clear hv1 hv2
  have hL1 := seesL2 hv1B hv2B
  rw [show (w.alloc (.cells (mc M) 29)).heap.size = w.heap.size + 1 from by simp] at hL1
  have hbw1 := below_alloc' hbw0 (.cells #[Value.slice oa1 zs1.length ca1, Value.slice oa2 zs2.length ca2] 26)
  have hbB : Below (w.alloc (.cells (mc M) 29)).heap.size (w.alloc (.cells (mc M) 29)) ((w.alloc (.cells (mc M) 29)).alloc (.cells #[Value.slice oa1 zs1.length ca1, Value.slice oa2 zs2.length ca2] 26)) := by (repeat (first | exact Below.refl _ _ | refine below_drew' ?_ | refine below_drewN' ?_ _ | refine below_alloc' ?_ _ | refine below_set' ?_ (by (try simp); (try omega)) _ | refine below_step ?_ (by assumption)))
  have hv1C := hv1B.below hbB
  have hv2C := hv2B.below hbB
  cases hm : two M zs1 zs2
  · have Hc : Hid (comC M zs1 zs2 = 1) := Lib.hid (by simp [comC, hm])
    have Hr : Hid (comR M zs1 zs2 = []) := Lib.hid (by simp [comR, hm])
    go_enter Try.func16, Try.ntmps16
    go_wp2_with (first | (with_reducible show wpList _ _ _ _ _ _; refine wpList_load_blk rfl 29 (.tmp 3) rfl w.heap.size 0 rfl (mc M) _ (hB) 98 F2.out _ Try.underlying29 rfl size_mach ?_; rw [F1.out]) | (go_at_call 20; refine (l02Code_two M hok _ _ _ zs1 zs2 _ hm _ hL1).mono ?_; rintro e w1 ⟨rfl, hb1⟩; simp only [Bool.false_eq_true, if_false]))
    go_ret2
    exact ⟨_, ret_vi Hc.out.symm, by rw [Hr.out]; exact OwnI.nil _ _, below_step hbw1 hb1⟩
  · have hl1 := isGrp_len (two_parts hm).1
    have hl2 := isGrp_len (two_parts hm).2
    have hk1 : zs1.length ≤ 1000 := by omega
    have hk2 : zs2.length ≤ 1000 := by omega
    have hs1 := Lib.hid (isGrp_small (two_parts hm).1)
    have hs2 := Lib.hid (isGrp_small (two_parts hm).2)
    have Hc : Hid (comC M zs1 zs2 = toldC (comW zs1 zs2)) := Lib.hid (by simp [comC, hm])
    have Hr : Hid (comR M zs1 zs2 = toldR (comW zs1 zs2)) := Lib.hid (by simp [comR, hm])
    have Ht1 := Lib.hid (turnI_len zs1)
    have Ht2 := Lib.hid (turnI_len zs2)
    go_enter Try.func16, Try.ntmps16
    go_wp2_with (first | (with_reducible show wpList _ _ _ _ _ _; refine wpList_load_blk rfl 29 (.tmp 3) rfl w.heap.size 0 rfl (mc M) _ (hB) 98 F2.out _ Try.underlying29 rfl size_mach ?_; rw [F1.out]) | (go_at_call 20; refine (l02Code_two M hok _ _ _ zs1 zs2 _ hm _ hL1).mono ?_; rintro e w1 ⟨rfl, hb1⟩; simp only [if_true]; have hv1D := hv1C.below hb1; have hv2D := hv2C.below hb1; have hbw2 := below_step hbw1 hb1) | (go_at_call 23; first | (refine (l02Inverse_calls _ zs2 _ hv2E (by omega) hs2.out).mono ?_; rintro e w3 ⟨v4, rfl, hO4, hb3⟩; obtain ⟨oa4, ca4, rfl, q4⟩ := hO4.view; clear q4; have hL := seesL4 (hS3.below hb3) hO4.sees (hv1E.below hb3) (hv2E.below hb3); have hbw4 := below_step hbw3 hb3; have hbw := below_alloc' hbw4 (.cells #[Value.slice oa3 (turnI zs1).length ca3, Value.slice oa4 (turnI zs2).length ca4, Value.slice oa1 zs1.length ca1, Value.slice oa2 zs2.length ca2] 26)) | (refine (l02Inverse_calls _ zs1 _ hv1D (by omega) hs1.out).mono ?_; rintro e w2 ⟨v3, rfl, hO3, hb2⟩; obtain ⟨oa3, ca3, rfl, q3⟩ := hO3.view; clear q3; have hS3 := hO3.sees; have hv1E := hv1D.below hb2; have hv2E := hv2D.below hb2; have hbw3 := below_step hbw2 hb2)) | (go_at_call 22; refine (l02Join_four _ _ _ _ _ zs1 zs2 hk1 hk2 _ hL).mono ?_; rintro e w5 ⟨v5, rfl, hO, hb5⟩) | (go_at_call 29; refine (l02Told_calls _ (comW zs1 zs2) _ _ hO).mono ?_; rintro e w6 ⟨v6, rfl, hO2, rfl⟩))
    go_ret2
    exact ⟨_, ret_vi Hc.out.symm, by rw [Hr.out]; exact hO2.base_le hbw.size, below_step hbw hb5⟩
end Go.Proofs.Ytlclhjpnnlgjfaa
