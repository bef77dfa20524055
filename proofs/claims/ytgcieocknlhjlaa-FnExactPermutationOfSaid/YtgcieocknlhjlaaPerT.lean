/- 'PermutationOf': the model, for every input. -/
import Derived.Test.YtgcieocknlhjlaaPerS
namespace Go.Proofs.Ytgcieocknlhjlaa
open Go.RowKit

theorem l01In_yes (n low high : Int) (r : Bool) (h : decide (low ≤ n ∧ n ≤ high) = r) (w : World) :
    Calls Try.prog 36 #[.int .i64 n, .int .i64 low, .int .i64 high] w fun e w' => e = .returned (.bool r) ∧ w = w' :=
  (l01In_calls n low high w).mono fun e w' h' => ⟨by rw [h'.1, h], h'.2⟩

set_option maxRecDepth 100000 in
set_option maxHeartbeats 1000000 in
theorem sPermutationOf_calls (M : Mach) (hok : M.Ok) (v : Value) (zs : List Int) (n : Int) (w : World) (hv : SeesI w v zs) :
    Calls Try.prog 22 #[.agg (mc M), v, .int .i64 n] w fun e w' => ∃ vr, e = .returned (.tuple #[vr, .int .i64 (permGC M zs n)]) ∧ OwnI w' w.heap.size vr (permGR M zs n) ∧ Below w.heap.size w w' := by
  have F1 : Hid (cut (mc M) 0 98 = mc M) := Lib.hid (cut_all _ _ (mc_size hok)); have F2 : Hid (0 + 98 ≤ (mc M).size) := Lib.hid (by rw [mc_size hok]; omega)
  have hB : Blk (w.alloc (.cells (mc M) 29)) w.heap.size (mc M) 29 := Blk.new w _ _
  have hbw0 : Below w.heap.size w (w.alloc (.cells (mc M) 29)) := by (repeat (first | exact Below.refl _ _ | refine below_drew' ?_ | refine below_drewN' ?_ _ | refine below_alloc' ?_ _ | refine below_set' ?_ (by (try simp); (try omega)) _ | refine below_step ?_ (by assumption)))
  have hvB := hv.below hbw0
  have hL1 := sees_one hvB
  rw [show (w.alloc (.cells (mc M) 29)).heap.size = w.heap.size + 1 from by simp] at hL1
  have hB0 := hB.alloc (.cells #[v] 26)
  have hbw1 := below_alloc' hbw0 (.cells #[v] 26)
  have hvC := hv.below hbw1
  obtain ⟨oa, cap, rfl, hc⟩ := hv.view
  clear hv hc hvB
  cases hm : isGrp M zs
  · have Hc : Hid (permGC M zs n = 1) := Lib.hid (by simp [permGC, hm])
    have Hr : Hid (permGR M zs n = []) := Lib.hid (by simp [permGR, hm])
    go_enter Try.func22, Try.ntmps22
    go_wp2_with (first | (with_reducible show wpList _ _ _ _ _ _; refine wpList_load_blk rfl 29 (.tmp 3) rfl w.heap.size 0 rfl (mc M) _ (hB) 98 F2.out _ Try.underlying29 rfl size_mach ?_; rw [F1.out]) | (go_at_call 32; refine (l02Code_one M hok _ _ zs _ hm _ hL1).mono ?_; rintro e w1 ⟨rfl, hb1⟩; simp only [Bool.false_eq_true, if_false]))
    go_ret2
    exact ⟨_, ret_vi Hc.out.symm, by rw [Hr.out]; exact OwnI.nil _ _, by (repeat (first | exact Below.refl _ _ | refine below_drew' ?_ | refine below_drewN' ?_ _ | refine below_alloc' ?_ _ | refine below_set' ?_ (by (try simp); (try omega)) _ | refine below_step ?_ (by assumption)))⟩
  · by_cases hn : 0 ≤ n ∧ n ≤ 5
    · obtain ⟨L, S, hg⟩ := Good.of hok (isGrp_mach hm).1
      have h2 := (isGrp_mach hm).2
      rw [hg.hS] at h2
      obtain ⟨h40, hz⟩ := grpOk_nums h2
      obtain ⟨nn, rfl⟩ := Int.eq_ofNat_of_zero_le hn.1
      have hn5 : nn ≤ 5 := by omega
      have Hr : Hid (permGR M zs nn = permG M zs L nn) := Lib.hid (by unfold permGR; rw [if_pos ⟨hm, hn⟩, hg.hL]; simp only [Int.toNat_natCast])
      have Hc : Hid (permGC M zs nn = 0) := Lib.hid (by unfold permGC; rw [if_pos hm, if_pos hn])
      have hd : decide (0 ≤ (nn : Int) ∧ (nn : Int) ≤ 5) = true := by simpa using hn
      clear h2 hn
      go_enter Try.func22, Try.ntmps22
      go_wp2_with (first | (with_reducible show wpList _ _ _ _ _ _; refine wpList_load_blk rfl 29 (.tmp 3) rfl w.heap.size 0 rfl (mc M) _ (by first | exact hB1 | exact hB) 98 F2.out _ Try.underlying29 rfl size_mach ?_; rw [F1.out]) | (go_at_call 32; refine (l02Code_one M hok _ _ zs _ hm _ hL1).mono ?_; rintro e w1 ⟨rfl, hb1⟩; simp only [if_true]; have hB1 := hB0.keptAll hb1; have hv1 := hvC.below hb1; have hbw2 := below_step hbw1 hb1) | (go_at_call 36; refine (l01In_yes _ _ _ _ hd _).mono ?_; rintro e w' ⟨rfl, rfl⟩) | (go_at_call 37; refine (l02Level_calls M L S hg _ zs hz h40 nn hn5 _ hv1).mono ?_; rintro e w2 ⟨v2, rfl, hO2, hb2⟩))
      go_ret2
      exact ⟨_, ret_vi Hc.out.symm, by rw [Hr.out]; exact hO2.base_le hbw2.size, below_step hbw2 hb2⟩
    · have Hc : Hid (permGC M zs n = 2) := Lib.hid (by unfold permGC; rw [if_pos hm, if_neg hn])
      have Hr : Hid (permGR M zs n = []) := Lib.hid (by unfold permGR; rw [if_neg (fun h => hn h.2)])
      have hd : decide (0 ≤ n ∧ n ≤ 5) = false := by simpa using hn
      clear hn
      go_enter Try.func22, Try.ntmps22
      go_wp2_with (first | (with_reducible show wpList _ _ _ _ _ _; refine wpList_load_blk rfl 29 (.tmp 3) rfl w.heap.size 0 rfl (mc M) _ (by first | exact hB1 | exact hB) 98 F2.out _ Try.underlying29 rfl size_mach ?_; rw [F1.out]) | (go_at_call 32; refine (l02Code_one M hok _ _ zs _ hm _ hL1).mono ?_; rintro e w1 ⟨rfl, hb1⟩; simp only [if_true]; have hB1 := hB0.keptAll hb1; have hv1 := hvC.below hb1; have hbw2 := below_step hbw1 hb1) | (go_at_call 36; refine (l01In_yes _ _ _ _ hd _).mono ?_; rintro e w' ⟨rfl, rfl⟩))
      go_ret2
      exact ⟨_, ret_vi Hc.out.symm, by rw [Hr.out]; exact OwnI.nil _ _, by (repeat (first | exact Below.refl _ _ | refine below_drew' ?_ | refine below_drewN' ?_ _ | refine below_alloc' ?_ _ | refine below_set' ?_ (by (try simp); (try omega)) _ | refine below_step ?_ (by assumption)))⟩
end Go.Proofs.Ytgcieocknlhjlaa
