/- 'MultiplyWords' of the program. -/
import Derived.Test.YtlclhjpnnlgjfaaGrpJ
namespace Go.Proofs.Ytlclhjpnnlgjfaa
open Go.RowKit

set_option maxRecDepth 100000 in
set_option maxHeartbeats 4000000 in
theorem iMultiplyWords_calls (M : Mach) (hok : M.Ok) (v1 : Value) (zs1 : List Int) (v2 : Value) (zs2 : List Int) (w : World) (hv1 : SeesI w v1 zs1) (hv2 : SeesI w v2 zs2) :
    Calls Try.prog 13 #[.agg (mc M), v1, v2] w fun e w' => ∃ vr, e = .returned (.tuple #[vr, .int .i64 (mulC M zs1 zs2)]) ∧ OwnI w' w.heap.size vr (mulR M zs1 zs2) ∧ Below w.heap.size w w' := by
  obtain ⟨oa1, ca1, rfl, q1⟩ := hv1.view
  obtain ⟨oa2, ca2, rfl, q2⟩ := hv2.view
  clear q1 q2
  have F1 : Hid (cut (mc M) 0 98 = mc M) := Lib.hid (cut_all _ _ (mc_size hok)); have F2 : Hid (0 + 98 ≤ (mc M).size) := Lib.hid (by rw [mc_size hok]; omega)
  have hB : Blk (w.alloc (.cells (mc M) 29)) w.heap.size (mc M) 29 := Blk.new w _ _
  have hbw0 : Below w.heap.size w (w.alloc (.cells (mc M) 29)) := by (repeat (first | exact Below.refl _ _ | refine below_drew' ?_ | refine below_drewN' ?_ _ | refine below_alloc' ?_ _ | refine below_set' ?_ (by (try simp); (try omega)) _ | refine below_step ?_ (by assumption)))
  have hv1B := hv1.below hbw0
  have hv2B := hv2.below hbw0
  clear hv1 hv2
  cases hm : two M zs1 zs2
  · have Hc : Hid (mulC M zs1 zs2 = 1) := Lib.hid (by simp [mulC, hm])
    have Hr : Hid (mulR M zs1 zs2 = []) := Lib.hid (by simp [mulR, hm])
    unfold two at hm
    go_enter Try.func13, Try.ntmps13
    go_wp2_with (first | (with_reducible show wpList _ _ _ _ _ _; refine wpList_load_blk rfl 29 (.tmp 3) rfl w.heap.size 0 rfl (mc M) _ (hB) 98 F2.out _ Try.underlying29 rfl size_mach ?_; rw [F1.out]) | (go_at_call 25; refine (areGroupWords_calls M hok _ zs1 _ zs2 _ hv1B hv2B).mono ?_; rintro e w1 ⟨rfl, hb1⟩; rw [hm]))
    go_ret2
    exact ⟨_, ret_vi Hc.out.symm, by rw [Hr.out]; exact OwnI.nil _ _, by (repeat (first | exact Below.refl _ _ | refine below_drew' ?_ | refine below_drewN' ?_ _ | refine below_alloc' ?_ _ | refine below_set' ?_ (by (try simp); (try omega)) _ | refine below_step ?_ (by assumption)))⟩
  · have hl1 := isGrp_len (two_parts hm).1
    have hl2 := isGrp_len (two_parts hm).2
    have hk1 : zs1.length ≤ 1000 := by omega
    have hk2 : zs2.length ≤ 1000 := by omega
    by_cases h40 : zs1.length + zs2.length ≤ 40
    · have Hc : Hid (mulC M zs1 zs2 = 0) := Lib.hid (by simp [mulC, hm, toldC, h40])
      have Hr : Hid (mulR M zs1 zs2 = zs1 ++ zs2) := Lib.hid (by simp [mulR, hm, toldR, h40])
      have hgt : ¬ (40 < (zs1.length : Int) + (zs2.length : Int)) := by omega
      unfold two at hm
      go_enter Try.func13, Try.ntmps13
      go_wp2_with (first | (with_reducible show wpList _ _ _ _ _ _; refine wpList_load_blk rfl 29 (.tmp 3) rfl w.heap.size 0 rfl (mc M) _ (hB) 98 F2.out _ Try.underlying29 rfl size_mach ?_; rw [F1.out]) | (go_at_call 25; refine (areGroupWords_calls M hok _ zs1 _ zs2 _ hv1B hv2B).mono ?_; rintro e w1 ⟨rfl, hb1⟩; rw [hm]; have hL := seesL2 (hv1B.below hb1) (hv2B.below hb1); have hbw := below_alloc' (below_step hbw0 hb1) (.cells #[Value.slice oa1 zs1.length ca1, Value.slice oa2 zs2.length ca2] 26)) | (go_at_call 27; refine (joinWords_two _ _ _ zs1 zs2 hk1 hk2 _ hL).mono ?_; rintro e w2 ⟨v3, rfl, hO, hb2⟩))
      go_ret2
      exact ⟨_, ret_vi Hc.out.symm, by rw [Hr.out]; exact hO.base_le hbw.size, below_step hbw hb2⟩
    · have Hc : Hid (mulC M zs1 zs2 = 3) := Lib.hid (by simp [mulC, hm, toldC, h40])
      have Hr : Hid (mulR M zs1 zs2 = []) := Lib.hid (by simp [mulR, hm, toldR, h40])
      have hgt : 40 < (zs1.length : Int) + (zs2.length : Int) := by omega
      unfold two at hm
      go_enter Try.func13, Try.ntmps13
      go_wp2_with (first | (with_reducible show wpList _ _ _ _ _ _; refine wpList_load_blk rfl 29 (.tmp 3) rfl w.heap.size 0 rfl (mc M) _ (hB) 98 F2.out _ Try.underlying29 rfl size_mach ?_; rw [F1.out]) | (go_at_call 25; refine (areGroupWords_calls M hok _ zs1 _ zs2 _ hv1B hv2B).mono ?_; rintro e w1 ⟨rfl, hb1⟩; rw [hm]))
      go_ret2
      exact ⟨_, ret_vi Hc.out.symm, by rw [Hr.out]; exact OwnI.nil _ _, by (repeat (first | exact Below.refl _ _ | refine below_drew' ?_ | refine below_drewN' ?_ _ | refine below_alloc' ?_ _ | refine below_set' ?_ (by (try simp); (try omega)) _ | refine below_step ?_ (by assumption)))⟩
end Go.Proofs.Ytlclhjpnnlgjfaa
