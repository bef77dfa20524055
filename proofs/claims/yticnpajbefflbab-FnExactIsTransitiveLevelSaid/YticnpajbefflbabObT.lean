/- 'LevelOrbits', 'IsTransitiveLevel': the model. -/
import Derived.Test.YticnpajbefflbabObS
namespace Go.Proofs.Yticnpajbefflbab
open Go.RowKit
theorem ret_bz {a b : Bool} {i j : Int} (h : a = b) (h' : i = j) : Ending.returned (.tuple #[.bool a, .int .i64 i]) = Ending.returned (.tuple #[.bool b, .int .i64 j]) := by rw [h, h']

set_option maxRecDepth 100000 in
set_option maxHeartbeats 2000000 in
theorem sLevelOrbits_calls (M : Mach) (hok : M.Ok) (n : Int) (w : World) :
    Calls Try.prog 9 #[.agg (mc M), .int .i64 n] w fun e w' => ∃ v vs, e = .returned (.tuple #[v, .int .i64 (gC M n [])]) ∧ OwnLV w' w.heap.size v vs (loR M n) ∧ Below w.heap.size w w' := by
  have F1 : Hid (cut (mc M) 0 98 = mc M) := Lib.hid (cut_all _ _ (mc_size hok)); have F2 : Hid (0 + 98 ≤ (mc M).size) := Lib.hid (by rw [mc_size hok]; omega)
  have hB : Blk (w.alloc (.cells (mc M) 29)) w.heap.size (mc M) 29 := Blk.new w _ _
  have hbw0 : Below w.heap.size w (w.alloc (.cells (mc M) 29)) := by (repeat (first | exact Below.refl _ _ | refine below_drew' ?_ | refine below_drewN' ?_ _ | refine below_alloc' ?_ _ | refine below_set' ?_ (by (try simp); (try omega)) _ | refine below_step ?_ (by assumption)))
  have HC := Lib.hid (l05Code_calls M hok n (w.alloc (.cells (mc M) 29)))
  by_cases hc : gC M n [] = 0
  · obtain ⟨L, S, nn, hg, rfl, hnL⟩ := gC_good hok hc
    have Hr := Lib.hid (loR_good hg hc)
    rw [hc, Hr.out]
    rw [hc] at HC
    have hN : L ^ nn ≤ 243 := by have := hg.L2; exact pow_le L nn hg.L3 (by omega)
    have HT := Lib.hid (fun W => l05Tables_calls M L S hg nn (by have := hg.L2; omega) W)
    have HO := Lib.hid (fun b v vs W h => l05Orbits_calls M L S hg nn (L ^ nn) rfl (by omega) b v vs W h)
    clear hc
    generalize orbsL (fwd M L nn S ++ bwd M L S nn S) (L ^ nn) (L ^ nn) = R at *
    go_enter Try.func9, Try.ntmps9
    go_wp2_with (first | (with_reducible show wpList _ _ _ _ _ _; refine wpList_load_blk rfl 29 (.tmp 2) rfl w.heap.size 0 rfl (mc M) _ (hB) 98 F2.out _ Try.underlying29 rfl size_mach ?_; rw [F1.out]) | (go_at_call 28; refine HC.out.mono ?_; rintro e w1 ⟨rfl, hb1⟩; have hB1 := hB.keptAll hb1; have hbw1 := below_step hbw0 hb1))
    have hdr : Below w1.heap.size w1 w1.drew := (Below.refl _ _).drew
    have hbd := below_step hbw1 hdr
    refine wp_region_held_drew (S := fun W => Blk W w.heap.size (mc M) 29) (by kernel_rfl) hB1.drew (fun hS0 => ?_)
    (refine hK_load 0 rfl (by kernel_rfl) (by kernel_rfl) (by kernel_rfl) 29 _ rfl (w.heap.size) 0 rfl (mc M) _ (fun W hW => hW) 98 (F2.out) _ Try.underlying29 rfl size_mach _ (F1.out) (fun _ _ _ h => h) rfl hS0 ?_; (intro K hK; go_simp; refine hK _ ?_; clear hK K))
    (refine hK_load 1 rfl (by kernel_rfl) (by kernel_rfl) (by kernel_rfl) 29 _ rfl (w.heap.size) 0 rfl (mc M) _ (fun W hW => hW) 98 (F2.out) _ Try.underlying29 rfl size_mach _ (F1.out) (fun _ _ _ h => h) rfl hS0 ?_; (intro K hK; go_simp; refine hK _ ?_; clear hK K))
    (refine hK_take 2 (.int .i64 (nn : Int)) rfl (by kernel_rfl) (by kernel_rfl) (by kernel_rfl) (fun _ _ _ h => h) rfl (fun W _ => by go_simp) hS0 ?_; (intro K hK; go_simp; refine hK _ ?_; clear hK K))
    (refine wpAnyH_ready (rs := [3]) (by kernel_rfl) (by simp) ?_; refine AllReadyH.cons rfl (fun K hK => ?_) AllReadyH.nil); go_simp; refine (HT.out _).mono ?_; rintro e w3 ⟨v3, vs3, rfl, hO3, hb3⟩; have hB3 : Blk w3 _ _ _ := Blk.keptAll hS0 hb3; have hbw3 := below_step hbd hb3
    (go_simp; refine hK.out _ _ (hB3) (fun hS1 => ?_); clear hK K)
    (refine wpAnyH_ready (rs := [4]) (by kernel_rfl) (by simp) ?_; refine AllReadyH.cons rfl (fun K hK => ?_) AllReadyH.nil); go_simp; refine (HO.out _ v3 vs3 _ hO3).mono ?_; rintro e w4 ⟨v4, vs4, rfl, hO4, hb4⟩; obtain ⟨ou, cu, rfl, hqq⟩ := hO4.view; clear hqq; have hB4 := hB3.keptAll hb4; have hbw4 := below_step hbw3 hb4
    (go_simp; refine hK.out _ _ (hB4) (fun hS2 => ?_); clear hK K)
    (refine hK_take 5 (.slice ou R.length cu) rfl (by kernel_rfl) (by kernel_rfl) (by kernel_rfl) (fun _ _ _ h => h) rfl (fun W _ => by go_simp) hS2 ?_; (intro K hK; go_simp; refine hK _ ?_; clear hK K))
    (refine hK_take 6 (.int .i64 0) rfl (by kernel_rfl) (by kernel_rfl) (by kernel_rfl) (fun _ _ _ h => h) rfl (fun W _ => by go_simp) hS2 ?_; (intro K hK; go_simp; refine hK _ ?_; clear hK K))
    refine wpAnyH_done (by kernel_rfl) ?_ _
    go_wp2
    go_ret2
    exact ⟨_, vs4, rfl, hO4.base_le hbw3.size, hbw4⟩
  · obtain ⟨c, hcc⟩ : ∃ c, gC M n [] = c := ⟨_, rfl⟩
    have Hr : Hid (loR M n = []) := Lib.hid (by unfold loR; rw [if_neg hc])
    rw [hcc] at hc HC ⊢
    have hcb : (c != 0) = true := by simpa using hc
    rw [Hr.out]
    clear hcc hc
    go_enter Try.func9, Try.ntmps9
    go_wp2_with (first | (with_reducible show wpList _ _ _ _ _ _; refine wpList_load_blk rfl 29 (.tmp 2) rfl w.heap.size 0 rfl (mc M) _ (hB) 98 F2.out _ Try.underlying29 rfl size_mach ?_; rw [F1.out]) | (go_at_call 28; refine HC.out.mono ?_; rintro e w1 ⟨rfl, hb1⟩))
    go_ret2
    exact ⟨_, [], rfl, OwnLV.nil _ _, below_step hbw0 hb1⟩

set_option maxRecDepth 100000 in
set_option maxHeartbeats 2000000 in
theorem sIsTransitiveLevel_calls (M : Mach) (hok : M.Ok) (n : Int) (w : World) :
    Calls Try.prog 15 #[.agg (mc M), .int .i64 n] w fun e w' => e = .returned (.tuple #[.bool (tlR M n), .int .i64 (gC M n [])]) ∧ Below w.heap.size w w' := by
  have F1 : Hid (cut (mc M) 0 98 = mc M) := Lib.hid (cut_all _ _ (mc_size hok)); have F2 : Hid (0 + 98 ≤ (mc M).size) := Lib.hid (by rw [mc_size hok]; omega)
  have hB : Blk (w.alloc (.cells (mc M) 29)) w.heap.size (mc M) 29 := Blk.new w _ _
  have hbw0 : Below w.heap.size w (w.alloc (.cells (mc M) 29)) := by (repeat (first | exact Below.refl _ _ | refine below_drew' ?_ | refine below_drewN' ?_ _ | refine below_alloc' ?_ _ | refine below_set' ?_ (by (try simp); (try omega)) _ | refine below_step ?_ (by assumption)))
  have HC := Lib.hid (l05Code_calls M hok n (w.alloc (.cells (mc M) 29)))
  by_cases hc : gC M n [] = 0
  · obtain ⟨L, S, nn, hg, rfl, hnL⟩ := gC_good hok hc
    have Hr := Lib.hid (tlR_good hg hc)
    rw [hc, Hr.out]
    rw [hc] at HC
    have hN : L ^ nn ≤ 243 := by have := hg.L2; exact pow_le L nn hg.L3 (by omega)
    have HT := Lib.hid (fun W => l05Tables_calls M L S hg nn (by have := hg.L2; omega) W)
    have HO := Lib.hid (fun b v vs W h => l05Orbits_calls M L S hg nn (L ^ nn) rfl (by omega) b v vs W h)
    clear hc
    generalize orbsL (fwd M L nn S ++ bwd M L S nn S) (L ^ nn) (L ^ nn) = R at *
    go_enter Try.func15, Try.ntmps15
    go_wp2_with (first | (with_reducible show wpList _ _ _ _ _ _; refine wpList_load_blk rfl 29 (.tmp 2) rfl w.heap.size 0 rfl (mc M) _ (hB) 98 F2.out _ Try.underlying29 rfl size_mach ?_; rw [F1.out]) | (go_at_call 28; refine HC.out.mono ?_; rintro e w1 ⟨rfl, hb1⟩; have hB1 := hB.keptAll hb1; have hbw1 := below_step hbw0 hb1))
    have hdr : Below w1.heap.size w1 w1.drew := (Below.refl _ _).drew
    have hbd := below_step hbw1 hdr
    refine wp_region_held_drew (S := fun W => Blk W w.heap.size (mc M) 29) (by kernel_rfl) hB1.drew (fun hS0 => ?_)
    (refine hK_load 0 rfl (by kernel_rfl) (by kernel_rfl) (by kernel_rfl) 29 _ rfl (w.heap.size) 0 rfl (mc M) _ (fun W hW => hW) 98 (F2.out) _ Try.underlying29 rfl size_mach _ (F1.out) (fun _ _ _ h => h) rfl hS0 ?_; (intro K hK; go_simp; refine hK _ ?_; clear hK K))
    (refine hK_load 1 rfl (by kernel_rfl) (by kernel_rfl) (by kernel_rfl) 29 _ rfl (w.heap.size) 0 rfl (mc M) _ (fun W hW => hW) 98 (F2.out) _ Try.underlying29 rfl size_mach _ (F1.out) (fun _ _ _ h => h) rfl hS0 ?_; (intro K hK; go_simp; refine hK _ ?_; clear hK K))
    (refine hK_take 2 (.int .i64 (nn : Int)) rfl (by kernel_rfl) (by kernel_rfl) (by kernel_rfl) (fun _ _ _ h => h) rfl (fun W _ => by go_simp) hS0 ?_; (intro K hK; go_simp; refine hK _ ?_; clear hK K))
    (refine wpAnyH_ready (rs := [3]) (by kernel_rfl) (by simp) ?_; refine AllReadyH.cons rfl (fun K hK => ?_) AllReadyH.nil); go_simp; refine (HT.out _).mono ?_; rintro e w3 ⟨v3, vs3, rfl, hO3, hb3⟩; have hB3 : Blk w3 _ _ _ := Blk.keptAll hS0 hb3; have hbw3 := below_step hbd hb3
    (go_simp; refine hK.out _ _ (hB3) (fun hS1 => ?_); clear hK K)
    (refine wpAnyH_ready (rs := [4]) (by kernel_rfl) (by simp) ?_; refine AllReadyH.cons rfl (fun K hK => ?_) AllReadyH.nil); go_simp; refine (HO.out _ v3 vs3 _ hO3).mono ?_; rintro e w4 ⟨v4, vs4, rfl, hO4, hb4⟩; obtain ⟨ou, cu, rfl, hqq⟩ := hO4.view; clear hqq; have hB4 := hB3.keptAll hb4; have hbw4 := below_step hbw3 hb4
    (go_simp; refine hK.out _ _ (hB4) (fun hS2 => ?_); clear hK K)
    (refine hK_take 5 (.int .i64 (R.length : Int)) rfl (by kernel_rfl) (by kernel_rfl) (by kernel_rfl) (fun _ _ _ h => h) rfl (fun W _ => by go_simp) hS2 ?_; (intro K hK; go_simp; refine hK _ ?_; clear hK K))
    (refine hK_take 6 (.bool ((R.length : Int) == 1)) rfl (by kernel_rfl) (by kernel_rfl) (by kernel_rfl) (fun _ _ _ h => h) rfl (fun W _ => by go_simp) hS2 ?_; (intro K hK; go_simp; refine hK _ ?_; clear hK K))
    (refine hK_take 7 (.bool ((R.length : Int) == 1)) rfl (by kernel_rfl) (by kernel_rfl) (by kernel_rfl) (fun _ _ _ h => h) rfl (fun W _ => by go_simp) hS2 ?_; (intro K hK; go_simp; refine hK _ ?_; clear hK K))
    (refine hK_take 8 (.int .i64 0) rfl (by kernel_rfl) (by kernel_rfl) (by kernel_rfl) (fun _ _ _ h => h) rfl (fun W _ => by go_simp) hS2 ?_; (intro K hK; go_simp; refine hK _ ?_; clear hK K))
    refine wpAnyH_done (by kernel_rfl) ?_ _
    go_wp2
    go_ret2
    exact ⟨ret_bz (by rw [Bool.eq_iff_iff, decide_eq_true_iff, beq_iff_eq]; omega) rfl, hbw4⟩
  · obtain ⟨c, hcc⟩ : ∃ c, gC M n [] = c := ⟨_, rfl⟩
    have Hr : Hid (tlR M n = false) := Lib.hid (by unfold tlR; rw [if_neg hc])
    rw [hcc] at hc HC ⊢
    have hcb : (c != 0) = true := by simpa using hc
    rw [Hr.out]
    clear hcc hc
    go_enter Try.func15, Try.ntmps15
    go_wp2_with (first | (with_reducible show wpList _ _ _ _ _ _; refine wpList_load_blk rfl 29 (.tmp 2) rfl w.heap.size 0 rfl (mc M) _ (hB) 98 F2.out _ Try.underlying29 rfl size_mach ?_; rw [F1.out]) | (go_at_call 28; refine HC.out.mono ?_; rintro e w1 ⟨rfl, hb1⟩))
    go_ret2
    exact ⟨rfl, below_step hbw0 hb1⟩
end Go.Proofs.Yticnpajbefflbab
