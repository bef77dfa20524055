/- 'DistancesFrom': the model. -/
import Derived.Test.YticnpajbefflbabPlc
import Derived.Test.YticnpajbefflbabGwD
import Derived.Test.YticnpajbefflbabTrM
namespace Go.Proofs.Yticnpajbefflbab
open Go.RowKit

theorem sees_wd1 (W : World) (g : Nat) (k : Int) (h : Blk W g #[.int .i64 k] 2) : SeesI W (.slice (some ⟨g, 0, none⟩) 1 1) [k] :=
  (OwnI.made (n := 1) (zs := [k]) (base := 0) rfl (by unfold maxLen; omega) (Nat.zero_le _) h).sees

theorem run_tre3 (q f s d : Value) (w : World) : (Instr.field 59 (.agg (tre q f s d)) 3).run Try.prog w = .ok d w := by kernel_rfl

set_option maxRecDepth 100000 in
set_option maxHeartbeats 2000000 in
theorem sDistancesFrom_calls (M : Mach) (hok : M.Ok) (n : Int) (k : Int) (w : World) :
    Calls Try.prog 17 #[.agg (mc M), .int .i64 n, .int .i64 k] w fun e w' => ∃ v, e = .returned (.tuple #[v, .int .i64 (gC M n [k])]) ∧ OwnI w' w.heap.size v (dfL M n k) ∧ Below w.heap.size w w' := by
  have F1 : Hid (cut (mc M) 0 98 = mc M) := Lib.hid (cut_all _ _ (mc_size hok)); have F2 : Hid (0 + 98 ≤ (mc M).size) := Lib.hid (by rw [mc_size hok]; omega)
  have hB : Blk (w.alloc (.cells (mc M) 29)) w.heap.size (mc M) 29 := Blk.new w _ _
  have hbw0 : Below w.heap.size w (w.alloc (.cells (mc M) 29)) := by (repeat (first | exact Below.refl _ _ | refine below_drew' ?_ | refine below_drewN' ?_ _ | refine below_alloc' ?_ _ | refine below_set' ?_ (by (try simp); (try omega)) _ | refine below_step ?_ (by assumption)))
  have hBW := hB.alloc (.cells #[.int .i64 k] 2)
  have hbwW := below_alloc' hbw0 (.cells #[.int .i64 k] 2)
  have HC := Lib.hid (l05Place_calls M hok n (.slice (some ⟨w.heap.size + 1, 0, none⟩) 1 1) [k] (by simp) ((w.alloc (.cells (mc M) 29)).alloc (.cells #[.int .i64 k] 2)) (sees_wd1 _ _ _ (Blk.new_at _ _ _ _ (by simp))))
  by_cases hc : gC M n [k] = 0
  · obtain ⟨L, S, nn, hg, rfl, hnL, hkk⟩ := gC_words hok hc
    obtain ⟨kk, rfl, hklt⟩ := hkk k (by simp)
    have Hr := Lib.hid (dfL_good hg hc)
    rw [hc, Hr.out]
    rw [hc] at HC
    have hN : L ^ nn ≤ 243 := by have := hg.L2; exact pow_le L nn hg.L3 (by omega)
    have HT := Lib.hid (fun W => l05Tables_calls M L S hg nn (by have := hg.L2; omega) W)
    have HO := Lib.hid (fun b v vs W h => l05Grow_calls M L S hg nn (L ^ nn) rfl (by omega) kk hklt b v vs W h)
    clear hc hkk
    generalize treeT (fwd M L nn S ++ bwd M L S nn S) (L ^ nn) kk = T0 at *
    generalize L ^ nn = N at *
    go_enter Try.func17, Try.ntmps17
    go_wp2_with (first | (with_reducible show wpList _ _ _ _ _ _; refine wpList_load_blk rfl 29 (.tmp 3) rfl w.heap.size 0 rfl (mc M) _ (by first | exact hBW | exact hB) 98 F2.out _ Try.underlying29 rfl size_mach ?_; rw [F1.out]) | (go_at_call 34; refine HC.out.mono ?_; rintro e w1 ⟨rfl, hb1⟩; have hB1 := hBW.keptAll hb1; have hbw1 := below_step hbwW hb1))
    have hdr : Below w1.heap.size w1 w1.drew := (Below.refl _ _).drew
    have hbd := below_step hbw1 hdr
    refine wp_region_held_drew (S := fun W => Blk W w.heap.size (mc M) 29) (by kernel_rfl) hB1.drew (fun hS0 => ?_)
    (refine hK_load 0 rfl (by kernel_rfl) (by kernel_rfl) (by kernel_rfl) 29 _ rfl (w.heap.size) 0 rfl (mc M) _ (fun W hW => hW) 98 (F2.out) _ Try.underlying29 rfl size_mach _ (F1.out) (fun _ _ _ h => h) rfl hS0 ?_; (intro K hK; go_simp; refine hK _ ?_; clear hK K))
    (refine hK_load 1 rfl (by kernel_rfl) (by kernel_rfl) (by kernel_rfl) 29 _ rfl (w.heap.size) 0 rfl (mc M) _ (fun W hW => hW) 98 (F2.out) _ Try.underlying29 rfl size_mach _ (F1.out) (fun _ _ _ h => h) rfl hS0 ?_; (intro K hK; go_simp; refine hK _ ?_; clear hK K))
    (refine hK_take 2 (.int .i64 (nn : Int)) rfl (by kernel_rfl) (by kernel_rfl) (by kernel_rfl) (fun _ _ _ h => h) rfl (fun W _ => by go_simp) hS0 ?_; (intro K hK; go_simp; refine hK _ ?_; clear hK K))
    (refine hK_take 4 (.int .i64 (kk : Int)) rfl (by kernel_rfl) (by kernel_rfl) (by kernel_rfl) (fun _ _ _ h => h) rfl (fun W _ => by go_simp) hS0 ?_; (intro K hK; go_simp; refine hK _ ?_; clear hK K))
    (refine wpAnyH_ready (rs := [3]) (by kernel_rfl) (by simp) ?_; refine AllReadyH.cons rfl (fun K hK => ?_) AllReadyH.nil); go_simp; refine (HT.out _).mono ?_; rintro e w3 ⟨v3, vs3, rfl, hO3, hb3⟩; have hB3 : Blk w3 _ _ _ := Blk.keptAll hS0 hb3; have hbw3 := below_step hbd hb3
    (go_simp; refine hK.out _ _ (hB3) (fun hS1 => ?_); clear hK K)
    (refine wpAnyH_ready (rs := [5]) (by kernel_rfl) (by simp) ?_; refine AllReadyH.cons rfl (fun K hK => ?_) AllReadyH.nil); go_simp; refine (HO.out _ v3 vs3 _ hO3).mono ?_; rintro e w4 ⟨qv, fv, sv, dv, T, rfl, hTe, hTok, hq4, hf4, hs4, hd4, hb4⟩; have hB4 := hB3.keptAll hb4; have hbw4 := below_step hbw3 hb4
    (go_simp; refine hK.out _ _ (hB4) (fun hS2 => ?_); clear hK K)
    have hfd := fun W => run_tre3 qv fv sv dv W
    (refine hK_take 6 (dv) rfl (by kernel_rfl) (by kernel_rfl) (by kernel_rfl) (fun _ _ _ h => h) rfl (fun W _ => by go_simp) hS2 ?_; (intro K hK; go_simp; refine hK _ ?_; clear hK K))
    (refine hK_take 7 (dv) rfl (by kernel_rfl) (by kernel_rfl) (by kernel_rfl) (fun _ _ _ h => h) rfl (fun W _ => by go_simp) hS2 ?_; (intro K hK; go_simp; refine hK _ ?_; clear hK K))
    (refine hK_take 8 (.int .i64 0) rfl (by kernel_rfl) (by kernel_rfl) (by kernel_rfl) (fun _ _ _ h => h) rfl (fun W _ => by go_simp) hS2 ?_; (intro K hK; go_simp; refine hK _ ?_; clear hK K))
    refine wpAnyH_done (by kernel_rfl) ?_ _
    go_wp2
    go_ret2
    exact ⟨_, rfl, by rw [← hTe]; exact hd4.base_le' hbw3.size, hbw4⟩
  · obtain ⟨c, hcc⟩ : ∃ c, gC M n [k] = c := ⟨_, rfl⟩
    have Hr : Hid (dfL M n k = []) := Lib.hid (by unfold dfL; rw [if_neg hc])
    rw [hcc] at hc HC ⊢
    have hcb : (c != 0) = true := by simpa using hc
    rw [Hr.out]
    clear hcc hc
    go_enter Try.func17, Try.ntmps17
    go_wp2_with (first | (with_reducible show wpList _ _ _ _ _ _; refine wpList_load_blk rfl 29 (.tmp 3) rfl w.heap.size 0 rfl (mc M) _ (by first | exact hBW | exact hB) 98 F2.out _ Try.underlying29 rfl size_mach ?_; rw [F1.out]) | (go_at_call 34; refine HC.out.mono ?_; rintro e w1 ⟨rfl, hb1⟩))
    go_ret2
    exact ⟨_, rfl, OwnI.nil _ _, below_step hbwW hb1⟩
end Go.Proofs.Yticnpajbefflbab
