/- 'PowerWord' of the program. -/
import Derived.Test.YtoiadhenoankfaaGrpP
namespace Go.Proofs.Ytoiadhenoankfaa
open Go.RowKit

set_option maxRecDepth 100000 in
set_option maxHeartbeats 2000000 in
theorem iPowerWord_calls (M : Mach) (hok : M.Ok) (v1 : Value) (zs1 : List Int) (k : Int) (w : World) (hv1 : SeesI w v1 zs1) :
    Calls Try.prog 22 #[.agg (mc M), v1, .int .i64 k] w fun e w' => ∃ vr, e = .returned (.tuple #[vr, .int .i64 (powC M zs1 k)]) ∧ OwnI w' w.heap.size vr (powR M zs1 k) ∧ Below w.heap.size w w' := by
  obtain ⟨oa1, ca1, rfl, q1⟩ := hv1.view
  clear q1
  have F1 : Hid (cut (mc M) 0 98 = mc M) := Lib.hid (cut_all _ _ (mc_size hok)); have F2 : Hid (0 + 98 ≤ (mc M).size) := Lib.hid (by rw [mc_size hok]; omega)
  have hB : Blk (w.alloc (.cells (mc M) 28)) w.heap.size (mc M) 28 := Blk.new w _ _
  have hbw0 : Below w.heap.size w (w.alloc (.cells (mc M) 28)) := by (repeat (first | exact Below.refl _ _ | refine below_drew' ?_ | refine below_drewN' ?_ _ | refine below_alloc' ?_ _ | refine below_set' ?_ (by (try simp); (try omega)) _ | refine below_step ?_ (by assumption)))
  have hv1B := hv1.below hbw0
  clear hv1
  cases hm : isGrp M zs1
  · have Hc : Hid (powC M zs1 k = 1) := Lib.hid (by simp [powC, hm])
    have Hr : Hid (powR M zs1 k = []) := Lib.hid (by simp [powR, hm])
    go_enter Try.func22, Try.ntmps22
    go_wp2_with (first | (with_reducible show wpList _ _ _ _ _ _; refine wpList_load_blk rfl 28 (.tmp 3) rfl w.heap.size 0 rfl (mc M) _ (hB) 98 F2.out _ Try.underlying28 rfl size_mach ?_; rw [F1.out]) | (go_at_call 13; refine (IsGroupWord_calls M hok _ zs1 _ hv1B).mono ?_; rintro e w1 ⟨rfl, hb1⟩; rw [hm]))
    go_ret2
    exact ⟨_, ret_vi Hc.out.symm, by rw [Hr.out]; exact OwnI.nil _ _, by (repeat (first | exact Below.refl _ _ | refine below_drew' ?_ | refine below_drewN' ?_ _ | refine below_alloc' ?_ _ | refine below_set' ?_ (by (try simp); (try omega)) _ | refine below_step ?_ (by assumption)))⟩
  · have hl1 := isGrp_len hm
    have hs1 := Lib.hid (isGrp_small hm)
    by_cases hk : -40 ≤ k ∧ k ≤ 40
    · have Hc0 : Hid (powC M zs1 k = toldC (repI (absW zs1 k) k.natAbs)) := Lib.hid (by simp [powC, hm, hk])
      have Hr0 : Hid (powR M zs1 k = toldR (repI (absW zs1 k) k.natAbs)) := Lib.hid (by simp [powR, hm, hk])
      by_cases hneg : k < 0
      · obtain ⟨n, hn⟩ : ∃ n : Nat, k = -(n : Int) := ⟨k.natAbs, by omega⟩
        subst hn
        have hn40 : n ≤ 40 := by omega
        have Htl := Lib.hid (turnI_len zs1)
        have hb0 : n * zs1.length ≤ 40 * 40 := Nat.mul_le_mul hn40 hl1
        obtain ⟨p, hp⟩ : ∃ p : Nat, n * zs1.length = p := ⟨_, rfl⟩
        have hpi : (zs1.length : Int) * (n : Int) = (p : Int) := by rw [← hp, Int.natCast_mul, Int.mul_comm]
        have Hrl : Hid ((repI (absW zs1 (-(n : Int))) (-(n : Int)).natAbs) = repI (turnI zs1) n) := Lib.hid (by rw [absW, if_pos hneg, Int.natAbs_neg, Int.natAbs_natCast])
        have Hlen : Hid ((repI (turnI zs1) n).length = p) := Lib.hid (by rw [repI_len, turnI_len, hp])
        have hb1600 : (zs1.length : Int) * (n : Int) ≤ 1600 ∧ 0 ≤ (zs1.length : Int) * (n : Int) := by rw [hpi]; omega
        by_cases h40 : p ≤ 40
        · have hgt : ¬ (40 < (zs1.length : Int) * (n : Int)) := by rw [hpi]; omega
          have Hc : Hid (powC M zs1 (-(n : Int)) = 0) := Lib.hid (by rw [Hc0.out, Hrl.out, toldC, if_pos (by rw [Hlen.out]; exact h40)])
          have Hr : Hid (powR M zs1 (-(n : Int)) = repI (turnI zs1) n) := Lib.hid (by rw [Hr0.out, Hrl.out, toldR, if_pos (by rw [Hlen.out]; exact h40)])
          clear hpi hp hb0
          go_enter Try.func22, Try.ntmps22
          go_wp2_with (first | (with_reducible show wpList _ _ _ _ _ _; refine wpList_load_blk rfl 28 (.tmp 3) rfl w.heap.size 0 rfl (mc M) _ (hB) 98 F2.out _ Try.underlying28 rfl size_mach ?_; rw [F1.out]) | (go_at_call 13; refine (IsGroupWord_calls M hok _ zs1 _ hv1B).mono ?_; rintro e w1 ⟨rfl, hb1⟩; rw [hm]; have hv1C := hv1B.below hb1; have hbw1 := below_step hbw0 hb1) | (go_at_call 35; refine (turnWord_calls _ zs1 _ hv1C (by omega) hs1.out).mono ?_; rintro e w2 ⟨v3, rfl, hO3, hb2⟩; obtain ⟨oa3, ca3, rfl, q3⟩ := hO3.view; rw [Htl.out] at hO3; clear q3; simp only [turnI_len] at hO3 ⊢; have hS3 := hO3.sees; have hbw2 := below_step hbw1 hb2) | (go_at_call 42; refine (repeatWord_calls _ (turnI zs1) n (by rw [Htl.out]; exact hl1) hn40 _ hS3).mono ?_; rintro e w3 ⟨v4, rfl, hO, hb3⟩))
          go_ret2
          exact ⟨_, ret_vi Hc.out.symm, by rw [Hr.out]; exact hO.base_le hbw2.size, below_step hbw2 hb3⟩
        · have hgt : 40 < (zs1.length : Int) * (n : Int) := by rw [hpi]; omega
          have Hc : Hid (powC M zs1 (-(n : Int)) = 3) := Lib.hid (by rw [Hc0.out, Hrl.out, toldC, if_neg (by rw [Hlen.out]; exact h40)])
          have Hr : Hid (powR M zs1 (-(n : Int)) = []) := Lib.hid (by rw [Hr0.out, Hrl.out, toldR, if_neg (by rw [Hlen.out]; exact h40)])
          clear hpi hp hb0
          go_enter Try.func22, Try.ntmps22
          go_wp2_with (first | (with_reducible show wpList _ _ _ _ _ _; refine wpList_load_blk rfl 28 (.tmp 3) rfl w.heap.size 0 rfl (mc M) _ (hB) 98 F2.out _ Try.underlying28 rfl size_mach ?_; rw [F1.out]) | (go_at_call 13; refine (IsGroupWord_calls M hok _ zs1 _ hv1B).mono ?_; rintro e w1 ⟨rfl, hb1⟩; rw [hm]; have hv1C := hv1B.below hb1; have hbw1 := below_step hbw0 hb1) | (go_at_call 35; refine (turnWord_calls _ zs1 _ hv1C (by omega) hs1.out).mono ?_; rintro e w2 ⟨v3, rfl, hO3, hb2⟩; obtain ⟨oa3, ca3, rfl, q3⟩ := hO3.view; clear q3; simp only [turnI_len]; have hbw2 := below_step hbw1 hb2))
          go_ret2
          exact ⟨_, ret_vi Hc.out.symm, by rw [Hr.out]; exact OwnI.nil _ _, hbw2⟩
      · obtain ⟨n, rfl⟩ := Int.eq_ofNat_of_zero_le (a := k) (by omega)
        have hn40 : n ≤ 40 := by omega
        have hb0 : n * zs1.length ≤ 40 * 40 := Nat.mul_le_mul hn40 hl1
        obtain ⟨p, hp⟩ : ∃ p : Nat, n * zs1.length = p := ⟨_, rfl⟩
        have hpi : (zs1.length : Int) * (n : Int) = (p : Int) := by rw [← hp, Int.natCast_mul, Int.mul_comm]
        have Hrl : Hid ((repI (absW zs1 (n : Int)) (n : Int).natAbs) = repI zs1 n) := Lib.hid (by rw [absW, if_neg hneg, Int.natAbs_natCast])
        have Hlen : Hid ((repI zs1 n).length = p) := Lib.hid (by rw [repI_len, hp])
        have hb1600 : (zs1.length : Int) * (n : Int) ≤ 1600 ∧ 0 ≤ (zs1.length : Int) * (n : Int) := by rw [hpi]; omega
        by_cases h40 : p ≤ 40
        · have hgt : ¬ (40 < (zs1.length : Int) * (n : Int)) := by rw [hpi]; omega
          have Hc : Hid (powC M zs1 (n : Int) = 0) := Lib.hid (by rw [Hc0.out, Hrl.out, toldC, if_pos (by rw [Hlen.out]; exact h40)])
          have Hr : Hid (powR M zs1 (n : Int) = repI zs1 n) := Lib.hid (by rw [Hr0.out, Hrl.out, toldR, if_pos (by rw [Hlen.out]; exact h40)])
          clear hpi hp hb0
          go_enter Try.func22, Try.ntmps22
          go_wp2_with (first | (with_reducible show wpList _ _ _ _ _ _; refine wpList_load_blk rfl 28 (.tmp 3) rfl w.heap.size 0 rfl (mc M) _ (hB) 98 F2.out _ Try.underlying28 rfl size_mach ?_; rw [F1.out]) | (go_at_call 13; refine (IsGroupWord_calls M hok _ zs1 _ hv1B).mono ?_; rintro e w1 ⟨rfl, hb1⟩; rw [hm]; have hv1C := hv1B.below hb1; have hbw1 := below_step hbw0 hb1) | (go_at_call 42; refine (repeatWord_calls _ zs1 n hl1 hn40 _ hv1C).mono ?_; rintro e w3 ⟨v4, rfl, hO, hb3⟩))
          go_ret2
          exact ⟨_, ret_vi Hc.out.symm, by rw [Hr.out]; exact hO.base_le hbw1.size, below_step hbw1 hb3⟩
        · have hgt : 40 < (zs1.length : Int) * (n : Int) := by rw [hpi]; omega
          have Hc : Hid (powC M zs1 (n : Int) = 3) := Lib.hid (by rw [Hc0.out, Hrl.out, toldC, if_neg (by rw [Hlen.out]; exact h40)])
          have Hr : Hid (powR M zs1 (n : Int) = []) := Lib.hid (by rw [Hr0.out, Hrl.out, toldR, if_neg (by rw [Hlen.out]; exact h40)])
          clear hpi hp hb0
          go_enter Try.func22, Try.ntmps22
          go_wp2_with (first | (with_reducible show wpList _ _ _ _ _ _; refine wpList_load_blk rfl 28 (.tmp 3) rfl w.heap.size 0 rfl (mc M) _ (hB) 98 F2.out _ Try.underlying28 rfl size_mach ?_; rw [F1.out]) | (go_at_call 13; refine (IsGroupWord_calls M hok _ zs1 _ hv1B).mono ?_; rintro e w1 ⟨rfl, hb1⟩; rw [hm]; have hbw1 := below_step hbw0 hb1))
          go_ret2
          exact ⟨_, ret_vi Hc.out.symm, by rw [Hr.out]; exact OwnI.nil _ _, hbw1⟩
    · have Hc : Hid (powC M zs1 k = 2) := Lib.hid (by simp [powC, hm, hk])
      have Hr : Hid (powR M zs1 k = []) := Lib.hid (by simp [powR, hm, hk])
      by_cases hlo : k < -40
      · clear hk
        go_enter Try.func22, Try.ntmps22
        go_wp2_with (first | (with_reducible show wpList _ _ _ _ _ _; refine wpList_load_blk rfl 28 (.tmp 3) rfl w.heap.size 0 rfl (mc M) _ (hB) 98 F2.out _ Try.underlying28 rfl size_mach ?_; rw [F1.out]) | (go_at_call 13; refine (IsGroupWord_calls M hok _ zs1 _ hv1B).mono ?_; rintro e w1 ⟨rfl, hb1⟩; rw [hm]))
        go_ret2
        exact ⟨_, ret_vi Hc.out.symm, by rw [Hr.out]; exact OwnI.nil _ _, by (repeat (first | exact Below.refl _ _ | refine below_drew' ?_ | refine below_drewN' ?_ _ | refine below_alloc' ?_ _ | refine below_set' ?_ (by (try simp); (try omega)) _ | refine below_step ?_ (by assumption)))⟩
      · have hhi : 40 < k := by omega
        clear hk
        go_enter Try.func22, Try.ntmps22
        go_wp2_with (first | (with_reducible show wpList _ _ _ _ _ _; refine wpList_load_blk rfl 28 (.tmp 3) rfl w.heap.size 0 rfl (mc M) _ (hB) 98 F2.out _ Try.underlying28 rfl size_mach ?_; rw [F1.out]) | (go_at_call 13; refine (IsGroupWord_calls M hok _ zs1 _ hv1B).mono ?_; rintro e w1 ⟨rfl, hb1⟩; rw [hm]))
        go_ret2
        exact ⟨_, ret_vi Hc.out.symm, by rw [Hr.out]; exact OwnI.nil _ _, by (repeat (first | exact Below.refl _ _ | refine below_drew' ?_ | refine below_drewN' ?_ _ | refine below_alloc' ?_ _ | refine below_set' ?_ (by (try simp); (try omega)) _ | refine below_step ?_ (by assumption)))⟩
end Go.Proofs.Ytoiadhenoankfaa
