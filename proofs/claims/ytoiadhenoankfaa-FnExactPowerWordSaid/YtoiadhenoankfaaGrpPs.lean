/- 'PowerWord' of the model. -/
import Derived.Test.YtoiadhenoankfaaGrpP
namespace Go.Proofs.Ytoiadhenoankfaa
open Go.RowKit

set_option maxRecDepth 100000 in
set_option maxHeartbeats 2000000 in
theorem sPowerWord_calls (M : Mach) (hok : M.Ok) (v1 : Value) (zs1 : List Int) (k : Int) (w : World) (hv1 : SeesI w v1 zs1) :
    Calls Try.prog 21 #[.agg (mc M), v1, .int .i64 k] w fun e w' => ∃ vr, e = .returned (.tuple #[vr, .int .i64 (powC M zs1 k)]) ∧ OwnI w' w.heap.size vr (powR M zs1 k) ∧ Below w.heap.size w w' := by
  obtain ⟨oa1, ca1, rfl, q1⟩ := hv1.view
  clear q1
  have F1 : Hid (cut (mc M) 0 98 = mc M) := Lib.hid (cut_all _ _ (mc_size hok)); have F2 : Hid (0 + 98 ≤ (mc M).size) := Lib.hid (by rw [mc_size hok]; omega)
  have hB : Blk (w.alloc (.cells (mc M) 28)) w.heap.size (mc M) 28 := Blk.new w _ _
  have hbw0 : Below w.heap.size w (w.alloc (.cells (mc M) 28)) := by (repeat (first | exact Below.refl _ _ | refine below_drew' ?_ | refine below_drewN' ?_ _ | refine below_alloc' ?_ _ | refine below_set' ?_ (by (try simp); (try omega)) _ | refine below_step ?_ (by assumption)))
  have hv1B := hv1.below hbw0
  clear hv1
  have hL1 := seesL1 hv1B
  rw [show (w.alloc (.cells (mc M) 28)).heap.size = w.heap.size + 1 from by simp] at hL1
  have hbw1 := below_alloc' hbw0 (.cells #[Value.slice oa1 zs1.length ca1] 26)
  have hbB : Below (w.alloc (.cells (mc M) 28)).heap.size (w.alloc (.cells (mc M) 28)) ((w.alloc (.cells (mc M) 28)).alloc (.cells #[Value.slice oa1 zs1.length ca1] 26)) := by (repeat (first | exact Below.refl _ _ | refine below_drew' ?_ | refine below_drewN' ?_ _ | refine below_alloc' ?_ _ | refine below_set' ?_ (by (try simp); (try omega)) _ | refine below_step ?_ (by assumption)))
  have hv1C := hv1B.below hbB
  cases hm : isGrp M zs1
  · have Hc : Hid (powC M zs1 k = 1) := Lib.hid (by simp [powC, hm])
    have Hr : Hid (powR M zs1 k = []) := Lib.hid (by simp [powR, hm])
    go_enter Try.func21, Try.ntmps21
    go_wp2_with (first | (with_reducible show wpList _ _ _ _ _ _; refine wpList_load_blk rfl 28 (.tmp 3) rfl w.heap.size 0 rfl (mc M) _ (hB) 98 F2.out _ Try.underlying28 rfl size_mach ?_; rw [F1.out]) | (go_at_call 33; refine (l02Code_one M hok _ _ zs1 _ hm _ hL1).mono ?_; rintro e w1 ⟨rfl, hb1⟩; simp only [Bool.false_eq_true, if_false]))
    go_ret2
    exact ⟨_, ret_vi Hc.out.symm, by rw [Hr.out]; exact OwnI.nil _ _, below_step hbw1 hb1⟩
  · have hl1 := isGrp_len hm
    have hs1 := Lib.hid (isGrp_small hm)
    by_cases hk : -40 ≤ k ∧ k ≤ 40
    · have Hc : Hid (powC M zs1 k = toldC (repI (absW zs1 k) k.natAbs)) := Lib.hid (by simp [powC, hm, hk])
      have Hr : Hid (powR M zs1 k = toldR (repI (absW zs1 k) k.natAbs)) := Lib.hid (by simp [powR, hm, hk])
      have hkd : decide (-40 ≤ k ∧ k ≤ 40) = true := by simpa using hk
      have Hk := Lib.hid hk
      clear hk
      go_enter Try.func21, Try.ntmps21
      go_wp2_with (first | (with_reducible show wpList _ _ _ _ _ _; refine wpList_load_blk rfl 28 (.tmp 3) rfl w.heap.size 0 rfl (mc M) _ (hB) 98 F2.out _ Try.underlying28 rfl size_mach ?_; rw [F1.out]) | (go_at_call 33; refine (l02Code_one M hok _ _ zs1 _ hm _ hL1).mono ?_; rintro e w1 ⟨rfl, hb1⟩; simp only [if_true]; have hv1D := hv1C.below hb1; have hbw := below_step hbw1 hb1) | (go_at_call 40; refine (l01In_calls _ _ _ _).mono ?_; rintro e w' ⟨rfl, rfl⟩; rw [hkd]) | (go_at_call 41; refine (l02Power_calls _ zs1 k hl1 hs1.out Hk.out _ hv1D).mono ?_; rintro e w5 ⟨v5, rfl, hO, hb5⟩) | (go_at_call 36; refine (l02Told_calls _ (repI (absW zs1 k) k.natAbs) _ _ hO).mono ?_; rintro e w6 ⟨v6, rfl, hO2, rfl⟩))
      go_ret2
      exact ⟨_, ret_vi Hc.out.symm, by rw [Hr.out]; exact hO2.base_le hbw.size, below_step hbw hb5⟩
    · have Hc : Hid (powC M zs1 k = 2) := Lib.hid (by simp [powC, hm, hk])
      have Hr : Hid (powR M zs1 k = []) := Lib.hid (by simp [powR, hm, hk])
      have hkd : decide (-40 ≤ k ∧ k ≤ 40) = false := by simpa using hk
      clear hk
      go_enter Try.func21, Try.ntmps21
      go_wp2_with (first | (with_reducible show wpList _ _ _ _ _ _; refine wpList_load_blk rfl 28 (.tmp 3) rfl w.heap.size 0 rfl (mc M) _ (hB) 98 F2.out _ Try.underlying28 rfl size_mach ?_; rw [F1.out]) | (go_at_call 33; refine (l02Code_one M hok _ _ zs1 _ hm _ hL1).mono ?_; rintro e w1 ⟨rfl, hb1⟩; simp only [if_true]) | (go_at_call 40; refine (l01In_calls _ _ _ _).mono ?_; rintro e w' ⟨rfl, rfl⟩; rw [hkd]))
      go_ret2
      exact ⟨_, ret_vi Hc.out.symm, by rw [Hr.out]; exact OwnI.nil _ _, below_step hbw1 hb1⟩
end Go.Proofs.Ytoiadhenoankfaa
