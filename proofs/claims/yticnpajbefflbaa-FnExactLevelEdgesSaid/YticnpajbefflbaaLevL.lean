/- Both 'LevelPermutation's, for every input. -/
import Derived.Test.YticnpajbefflbaaLevS
namespace Go.Proofs.Yticnpajbefflbaa
open Go.RowKit

theorem ret_vi {v : Value} {m m' : Int} (h : m = m') : Ending.returned (.tuple #[v, .int .i64 m]) = Ending.returned (.tuple #[v, .int .i64 m']) := by rw [h]
theorem perm_bad {M : Mach} {q n : Int} (h : ¬ (isMach M = true ∧ (0 ≤ q ∧ q < M.S) ∧ (0 ≤ n ∧ n ≤ 5))) : permRes M q n = [] := by unfold permRes; rw [if_neg h]
theorem perm_good {M : Mach} {q n : Nat} {L : Nat} (hL : M.L = L) (h : isMach M = true ∧ (0 ≤ (q : Int) ∧ (q : Int) < M.S) ∧ (0 ≤ (n : Int) ∧ (n : Int) ≤ 5)) : permRes M q n = permL M L q n := by
  unfold permRes; rw [if_pos h, hL]; simp only [Int.toNat_natCast]

set_option maxRecDepth 100000 in
set_option maxHeartbeats 1000000 in
theorem iLevel_calls (M : Mach) (hok : M.Ok) (q n : Int) (w : World) :
    Calls Try.prog 77 #[.agg (mc M), .int .i64 q, .int .i64 n] w fun e w' => ∃ v, e = .returned (.tuple #[v, .int .i64 (permCode M q n)]) ∧ OwnI w' w.heap.size v (permRes M q n) ∧ Below w.heap.size w w' := by
  have F1 : Hid (cut (mc M) 0 98 = mc M) := Lib.hid (cut_all _ _ (mc_size hok)); have F2 : Hid (0 + 98 ≤ (mc M).size) := Lib.hid (by rw [mc_size hok]; omega)
  have hB : Blk (w.alloc (.cells (mc M) 29)) w.heap.size (mc M) 29 := Blk.new w _ _
  cases hm : isMach M
  · have Hc : Hid (permCode M q n = 1) := Lib.hid (by simp [permCode, hm])
    have Hr : Hid (permRes M q n = []) := Lib.hid (perm_bad (by simp [hm]))
    go_enter Try.func77, Try.ntmps77
    go_wp2_with (first | (with_reducible show wpList _ _ _ _ _ _; refine wpList_load_blk rfl 29 (.tmp 3) rfl w.heap.size 0 rfl (mc M) _ (by first | exact hB1 | exact hB) 98 F2.out _ Try.underlying29 rfl size_mach ?_; rw [F1.out]) | (go_at_call 83; refine (IsMachine_calls M hok _).mono ?_; rintro e w1 ⟨rfl, hb1⟩; have hB1 := hB.keptAll hb1))
    go_ret2
    exact ⟨_, ret_vi Hc.out.symm, by rw [Hr.out]; exact OwnI.nil _ _, by (repeat (first | exact Below.refl _ _ | refine below_drew' ?_ | refine below_drewN' ?_ _ | refine below_alloc' ?_ _ | refine below_set' ?_ (by (try simp); (try omega)) _ | refine below_step ?_ (by assumption)))⟩
  · by_cases hq : 0 ≤ q ∧ q < M.S
    · by_cases hn : 0 ≤ n ∧ n ≤ 5
      · obtain ⟨L, S, hg⟩ := Good.of hok hm
        obtain ⟨qn, rfl⟩ := Int.eq_ofNat_of_zero_le hq.1
        obtain ⟨nn, rfl⟩ := Int.eq_ofNat_of_zero_le hn.1
        have hr := perm_good hg.hL ⟨hm, hq, hn⟩
        have hc : permCode M qn nn = 0 := by simp only [permCode, hm]; rw [if_neg (by simp), if_pos ⟨hq, hn⟩]
        rw [hr, hc]
        refine (iLevel_good M L S hg qn nn (by have := hg.hS; omega) (by omega) w).mono ?_
        rintro e w' ⟨v, h1, h2, h3⟩
        exact ⟨v, h1, h2, h3⟩
      · have Hc : Hid (permCode M q n = 2) := Lib.hid (by simp only [permCode, hm]; rw [if_neg (by simp), if_neg (fun h => hn h.2)])
        have Hr : Hid (permRes M q n = []) := Lib.hid (perm_bad (fun h => hn h.2.2))
        have hln : isLev n = false := (isLev_no n).2 hn
        have hqd : decide (0 ≤ q ∧ q < M.S) = true := by simpa using hq
        clear hq hn
        go_enter Try.func77, Try.ntmps77
        go_wp2_with (first | (with_reducible show wpList _ _ _ _ _ _; refine wpList_load_blk_g rfl 29 (.tmp 3) rfl w.heap.size 0 rfl (mc M) _ (by first | exact hB2 | exact hB1 | exact hB) 98 F2.out _ Try.underlying29 rfl size_mach ?_; rw [F1.out]) | (go_at_call 83; refine (IsMachine_calls M hok _).mono ?_; rintro e w1 ⟨rfl, hb1⟩; have hB1 := hB.keptAll hb1) | (go_at_call 88; refine (isState_calls M q _).mono ?_; rintro e w2 ⟨rfl, hb2⟩) | (go_at_call 62; refine (isLevel_calls _ _).mono ?_; rintro e w' ⟨rfl, rfl⟩))
        go_ret2
        exact ⟨_, ret_vi Hc.out.symm, by rw [Hr.out]; exact OwnI.nil _ _, by (repeat (first | exact Below.refl _ _ | refine below_drew' ?_ | refine below_drewN' ?_ _ | refine below_alloc' ?_ _ | refine below_set' ?_ (by (try simp); (try omega)) _ | refine below_step ?_ (by assumption)))⟩
    · have Hc : Hid (permCode M q n = 2) := Lib.hid (by simp only [permCode, hm]; rw [if_neg (by simp), if_neg (fun h => hq h.1)])
      have Hr : Hid (permRes M q n = []) := Lib.hid (perm_bad (fun h => hq h.2.1))
      have hqd : decide (0 ≤ q ∧ q < M.S) = false := by simpa using hq
      clear hq
      go_enter Try.func77, Try.ntmps77
      go_wp2_with (first | (with_reducible show wpList _ _ _ _ _ _; refine wpList_load_blk_g rfl 29 (.tmp 3) rfl w.heap.size 0 rfl (mc M) _ (by first | exact hB2 | exact hB1 | exact hB) 98 F2.out _ Try.underlying29 rfl size_mach ?_; rw [F1.out]) | (go_at_call 83; refine (IsMachine_calls M hok _).mono ?_; rintro e w1 ⟨rfl, hb1⟩; have hB1 := hB.keptAll hb1) | (go_at_call 88; refine (isState_calls M q _).mono ?_; rintro e w2 ⟨rfl, hb2⟩) | (go_at_call 62; refine (isLevel_calls _ _).mono ?_; rintro e w' ⟨rfl, rfl⟩))
      go_ret2
      exact ⟨_, ret_vi Hc.out.symm, by rw [Hr.out]; exact OwnI.nil _ _, by (repeat (first | exact Below.refl _ _ | refine below_drew' ?_ | refine below_drewN' ?_ _ | refine below_alloc' ?_ _ | refine below_set' ?_ (by (try simp); (try omega)) _ | refine below_step ?_ (by assumption)))⟩

end Go.Proofs.Yticnpajbefflbaa
