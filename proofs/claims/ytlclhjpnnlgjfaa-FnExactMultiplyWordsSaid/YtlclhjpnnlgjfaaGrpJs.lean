/- 'MultiplyWords' of the model. -/
import Derived.Test.YtlclhjpnnlgjfaaGrpJ
namespace Go.Proofs.Ytlclhjpnnlgjfaa
open Go.RowKit

set_option maxRecDepth 100000 in
set_option maxHeartbeats 4000000 in
theorem sMultiplyWords_calls (M : Mach) (hok : M.Ok) (v1 : Value) (zs1 : List Int) (v2 : Value) (zs2 : List Int) (w : World) (hv1 : SeesI w v1 zs1) (hv2 : SeesI w v2 zs2) :
    Calls Try.prog 12 #[.agg (mc M), v1, v2] w fun e w' => ∃ vr, e = .returned (.tuple #[vr, .int .i64 (mulC M zs1 zs2)]) ∧ OwnI w' w.heap.size vr (mulR M zs1 zs2) ∧ Below w.heap.size w w' := by
  obtain ⟨oa1, ca1, rfl, q1⟩ := hv1.view
  obtain ⟨oa2, ca2, rfl, q2⟩ := hv2.view
  clear q1 q2
  have F1 : Hid (cut (mc M) 0 98 = mc M) := Lib.hid (cut_all _ _ (mc_size hok)); have F2 : Hid (0 + 98 ≤ (mc M).size) := Lib.hid (by rw [mc_size hok]; omega)
  have hB : Blk (w.alloc (.cells (mc M) 29)) w.heap.size (mc M) 29 := Blk.new w _ _
  have hbw0 : Below w.heap.size w (w.alloc (.cells (mc M) 29)) := by (repeat (first | exact Below.refl _ _ | refine below_drew' ?_ | refine below_drewN' ?_ _ | refine below_alloc' ?_ _ | refine below_set' ?_ (by (try simp); (try omega)) _ | refine below_step ?_ (by assumption)))
  have hv1B := hv1.below hbw0
  have hv2B := hv2.below hbw0
  clear hv1 hv2
  have hL1 := seesL2 hv1B hv2B
  rw [show (w.alloc (.cells (mc M) 29)).heap.size = w.heap.size + 1 from by simp] at hL1
  have hbw1 := below_alloc' hbw0 (.cells #[Value.slice oa1 zs1.length ca1, Value.slice oa2 zs2.length ca2] 26)
  have hbB : Below (w.alloc (.cells (mc M) 29)).heap.size (w.alloc (.cells (mc M) 29)) ((w.alloc (.cells (mc M) 29)).alloc (.cells #[Value.slice oa1 zs1.length ca1, Value.slice oa2 zs2.length ca2] 26)) := by (repeat (first | exact Below.refl _ _ | refine below_drew' ?_ | refine below_drewN' ?_ _ | refine below_alloc' ?_ _ | refine below_set' ?_ (by (try simp); (try omega)) _ | refine below_step ?_ (by assumption)))
  have hv1C := hv1B.below hbB
  have hv2C := hv2B.below hbB
  cases hm : two M zs1 zs2
  · have Hc : Hid (mulC M zs1 zs2 = 1) := Lib.hid (by simp [mulC, hm])
    have Hr : Hid (mulR M zs1 zs2 = []) := Lib.hid (by simp [mulR, hm])
    go_enter Try.func12, Try.ntmps12
    go_wp2_with (first | (with_reducible show wpList _ _ _ _ _ _; refine wpList_load_blk rfl 29 (.tmp 3) rfl w.heap.size 0 rfl (mc M) _ (hB) 98 F2.out _ Try.underlying29 rfl size_mach ?_; rw [F1.out]) | (go_at_call 20; refine (l02Code_two M hok _ _ _ zs1 zs2 _ hm _ hL1).mono ?_; rintro e w1 ⟨rfl, hb1⟩; simp only [Bool.false_eq_true, if_false]))
    go_ret2
    exact ⟨_, ret_vi Hc.out.symm, by rw [Hr.out]; exact OwnI.nil _ _, below_step hbw1 hb1⟩
  · have hl1 := isGrp_len (two_parts hm).1
    have hl2 := isGrp_len (two_parts hm).2
    have hk1 : zs1.length ≤ 1000 := by omega
    have hk2 : zs2.length ≤ 1000 := by omega
    have Hc : Hid (mulC M zs1 zs2 = toldC (zs1 ++ zs2)) := Lib.hid (by simp [mulC, hm])
    have Hr : Hid (mulR M zs1 zs2 = toldR (zs1 ++ zs2)) := Lib.hid (by simp [mulR, hm])
    go_enter Try.func12, Try.ntmps12
    go_wp2_with (first | (with_reducible show wpList _ _ _ _ _ _; refine wpList_load_blk rfl 29 (.tmp 3) rfl w.heap.size 0 rfl (mc M) _ (hB) 98 F2.out _ Try.underlying29 rfl size_mach ?_; rw [F1.out]) | (go_at_call 20; refine (l02Code_two M hok _ _ _ zs1 zs2 _ hm _ hL1).mono ?_; rintro e w1 ⟨rfl, hb1⟩; simp only [if_true]; have hL := seesL2 (hv1C.below hb1) (hv2C.below hb1); have hbw := below_alloc' (below_step hbw1 hb1) (.cells #[Value.slice oa1 zs1.length ca1, Value.slice oa2 zs2.length ca2] 26)) | (go_at_call 22; refine (l02Join_two _ _ _ zs1 zs2 hk1 hk2 _ hL).mono ?_; rintro e w2 ⟨v3, rfl, hO, hb2⟩) | (go_at_call 29; refine (l02Told_calls _ (zs1 ++ zs2) _ _ hO).mono ?_; rintro e w3 ⟨v4, rfl, hO2, rfl⟩))
    go_ret2
    exact ⟨_, ret_vi Hc.out.symm, by rw [Hr.out]; exact hO2.base_le hbw.size, below_step hbw hb2⟩
end Go.Proofs.Ytlclhjpnnlgjfaa
