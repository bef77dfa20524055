/- 'OrderByPowers': the model. Written by gen/genor.py. -/
import Derived.Test.YtkkooafjpancoaaOrI
namespace Go.Proofs.Ytkkooafjpancoaa
open Go.RowKit

set_option maxRecDepth 100000 in
set_option maxHeartbeats 800000 in
theorem sOrderByPowers_calls (M : Mach) (hok : M.Ok) (q n : Int) (w : World) :
    Calls Try.prog 31 #[.agg (mc M), .int .i64 q, .int .i64 n] w fun e w' => e = .returned (.tuple #[.int .i64 (orX M q n).1, .int .i64 (orX M q n).2]) ∧ Below w.heap.size w w' := by
  have hz := zero_mach
  have F1 : Hid (cut (mc M) 0 98 = mc M) := Lib.hid (cut_all _ _ (mc_size hok))
  have F2 : Hid (0 + 98 ≤ (mc M).size) := Lib.hid (by rw [mc_size hok]; omega)
  have hM0 : Blk (w.alloc (.cells (mc M) 28)) w.heap.size (mc M) 28 := Blk.new w _ _
  have hb0 : Below w.heap.size w (w.alloc (.cells (mc M) 28)) := by (repeat (first | exact Below.refl _ _ | refine below_drew' ?_ | refine below_drewN' ?_ _ | refine below_alloc' ?_ _ | refine below_set' ?_ (by (try simp); (try omega)) _ | refine below_step ?_ (by assumption)))
  have HzS : Hid ((mc zeroM).size = 98) := Lib.hid (mc_size zeroM_ok)
  by_cases h0 : pwC M q n 1 = 0
  · obtain ⟨L, S, qn, hg, rfl, hq, hn1, hn2⟩ := pwC_good hok h0
    obtain ⟨m, rfl⟩ : ∃ m : Nat, n = (m : Int) := ⟨n.toNat, by omega⟩
    have HX := Lib.hid (orX_good hg h0)
    obtain ⟨hst, hin⟩ := pwL_st h0
    have HSt := Lib.hid (fun W => l07State_calls M hok qn W)
    rw [hst] at HSt
    have HIn := Lib.hid (fun W => l01In_calls m 1 16 W)
    rw [decide_eq_true hin] at HIn
    have HT := Lib.hid (trivM_good hg.L2 hg.L3)
    have HTs := Lib.hid (mc_size HT.out.ok)
    have HT1 : Hid (cut (mc (trivM L)) 0 98 = mc (trivM L)) := Lib.hid (cut_all _ _ HTs.out)
    have HTo : Hid (over (mc zeroM) 0 (mc (trivM L)) = mc (trivM L)) := Lib.hid (over_all _ _ (by rw [HTs.out, HzS.out]))
    have HtC := Lib.hid (fun W => l07Trivial_calls L hg.L3 W)
    have Hsz : Hid (∀ {P : Mach} {SP : Nat}, Good P L SP → (mc P).size = 98) := Lib.hid (fun h => mc_size h.ok)
    have HPr := Lib.hid (fun P SP (hP : Good P L SP) (h0P : 0 < SP) W => l07Product_calls P M L SP S hP hg 0 qn h0P hq W)
    have HG := Lib.hid (fun P SP (hP : Good P L SP) (h0P : 0 < SP) (hB : ltB (prA P M S) L (0 * S + qn) = true) => lt_goodO hP hg h0P hq hB)
    have hcL := mc_L M
    rw [hg.hL] at hcL
    generalize orX M qn m = x at *
    obtain ⟨Tm, hTm⟩ : ∃ t, trivM L = t := ⟨_, rfl⟩
    rw [hTm] at HT HTs HT1 HTo HtC HX
    have HTm := Lib.hid hTm
    clear hTm
    clear h0 hg hst hin
    go_enter Try.func31, Try.ntmps31
    go_wp2_with (first | (with_reducible show wpList _ _ _ _ _ _; refine wpList_load_blk rfl 28 (.tmp 3) rfl w.heap.size 0 rfl (mc M) _ (by first | exact hM0) 98 F2.out _ Try.underlying28 rfl size_mach ?_; rw [F1.out]) | (go_at_call 51; refine (HSt.out _).mono ?_; rintro e w1 ⟨rfl, hc1⟩; have hM1 := hM0.keptAll hc1; have hb1 := below_step hb0 hc1; have cL1 := (hM1.cell 0).trans hcL) | (go_at_call 42; refine (HIn.out _).mono ?_; rintro e w' ⟨rfl, rfl⟩) | (go_at_call 58; refine (HtC.out _).mono ?_; rintro e w2 ⟨rfl, hc2⟩; have hl2 := (hM1.keptAll hc2).lt; have hM3 := (hM1.keptAll hc2).alloc (.cells (mc zeroM) 28); have hb2 := below_step hb1 hc2; have hge2 := hb2.size; have hb3 := below_alloc' hb2 (.cells (mc zeroM) 28); have hT3 : Blk (w2.alloc (.cells (mc zeroM) 28)) w2.heap.size (mc zeroM) 28 := Blk.new _ _ _) | ((with_reducible show wpList _ _ _ _ _ _); refine wpList_store_blk rfl 28 (.tmp 9) (.tmp 29) rfl w2.heap.size 0 (mc Tm) rfl rfl (mc zeroM) 28 hT3 (by first | (rw [HTs.out, HzS.out]; omega) | (rw [HTs.out]; omega)) (by rw [HTs.out]; exact size_mach) (mc_one _) ?_; intro w4 hXw4 hkeep hsz hbl; clear hsz; rw [HTo.out] at hXw4; have hbw4 := hbl w.heap.size w (hge2) hb3; have hM4 := hkeep w.heap.size _ _ (by omega) hM3; have hlM4 := hM4.lt; have hl4 := hXw4.lt; have hge4 := hbw4.size; have hM5 := hM4.alloc (.cells (mc zeroM) 28); have hT5 := hXw4.alloc (.cells (mc zeroM) 28); have hb5 := below_alloc' hbw4 (.cells (mc zeroM) 28); have hP5 : Blk (w4.alloc (.cells (mc zeroM) 28)) w4.heap.size (mc zeroM) 28 := Blk.new _ _ _; clear hkeep hbl) | (with_reducible show wpList _ _ _ _ _ _; refine wpList_load_blk rfl 28 (.tmp 9) rfl w2.heap.size 0 rfl (mc Tm) _ (by first | exact hXw4) 98 (by rw [HTs.out]; omega) _ Try.underlying28 rfl size_mach ?_; rw [HT1.out]) | ((with_reducible show wpList _ _ _ _ _ _); refine wpList_store_blk rfl 28 (.tmp 10) (.tmp 30) rfl w4.heap.size 0 (mc Tm) rfl rfl (mc zeroM) 28 hP5 (by first | (rw [HTs.out, HzS.out]; omega) | (rw [HTs.out]; omega)) (by rw [HTs.out]; exact size_mach) (mc_one _) ?_; intro w6 hXw6 hkeep hsz hbl; clear hsz; rw [HTo.out] at hXw6; have hbw6 := hbl w.heap.size w (hge4) hb5; have hM6 := hkeep w.heap.size _ _ (by omega) hM5; have hT6 := hkeep w2.heap.size _ _ (by omega) hT5; clear hkeep hbl))
    obtain ⟨g9, hg9⟩ : ∃ g, w2.heap.size = g := ⟨_, rfl⟩
    obtain ⟨g10, hg10⟩ : ∃ g, w4.heap.size = g := ⟨_, rfl⟩
    rw [hg9] at hT6 hl4 hl2 hge2 ⊢
    rw [hg10] at hXw6 hl4 hge4 hlM4 ⊢
    clear hg9 hg10
    go_loopw [11] (fun cv wr => ∃ (k : Nat) (P : Mach) (SP : Nat), k ≤ m ∧ cv = .int .i64 ((k : Int) + 1) ∧ Good P L SP ∧ 0 < SP ∧ ordF M L S qn (m - k) k P = x ∧ Blk wr w.heap.size (mc M) 28 ∧ Blk wr g9 (mc Tm) 28 ∧ Blk wr g10 (mc P) 28 ∧ Below w.heap.size w wr) (fun cv _ => m + 1 - (intOf cv).toNat)
    case atStart => exact ⟨0, Tm, 1, by omega, rfl, HT.out, by omega, HX.out.symm, hM6, hT6, hXw6, hbw6⟩
    case round =>
      clear hM6 hT6 hXw6 hbw6
      obtain ⟨k, P, SP, hk, rfl, hP, h0P, hor, hM, hT, hY, hbw⟩ := hrel
      have Hor := Lib.hid hor
      have HP := Lib.hid hP
      have HPs := Lib.hid (Hsz.out hP)
      have P1 : Hid (cut (mc P) 0 98 = mc P) := Lib.hid (cut_all _ _ HPs.out)
      clear hor hP
      by_cases hkn : k < m
      · have hki : (k : Int) + 1 ≤ (m : Int) := by omega
        have hf : m - k = (m - (k + 1)) + 1 := by omega
        rw [hf] at Hor
        have hwk : IntKind.i64.wrap ((k : Int) + 1 + 1) = (k : Int) + 1 + 1 := by simp [IntKind.wrap, IntKind.bits, IntKind.signed]; omega
        have HC := Lib.hid (HPr.out P SP HP.out h0P)
        clear hf
        cases hB : ltB (prA P M S) L (0 * S + qn)
        · have Hr : Hid (x = (0, 3)) := Lib.hid (by rw [← Hor.out]; exact ordF_up hB)
          rw [hB, (ltB_no hB).2] at HC
          clear hB
          go_wp2_with (first | (with_reducible show wpList _ _ _ _ _ _; refine wpList_load_blk rfl 28 (.tmp 10) rfl g10 0 rfl (mc P) _ (by first | exact hY) 98 (by rw [HPs.out]; omega) _ Try.underlying28 rfl size_mach ?_; rw [P1.out]) | (with_reducible show wpList _ _ _ _ _ _; refine wpList_load_blk rfl 28 (.tmp 3) rfl w.heap.size 0 rfl (mc M) _ (by first | exact hM) 98 F2.out _ Try.underlying28 rfl size_mach ?_; rw [F1.out]) | (go_at_call 46; refine (HC.out _).mono ?_; rintro e w6 ⟨rfl, hc6⟩; have hM6 := hM.keptAll hc6; have hT6 := hT.keptAll hc6; have hY6 := hY.keptAll hc6; have hb6 := below_step hbw hc6; have hl6 := hM6.lt; have hlT := hT6.lt; have hlY := hY6.lt; have hge6 := hb6.size; have hM7 := hM6.alloc (.cells (mc zeroM) 28); have hT7 := hT6.alloc (.cells (mc zeroM) 28); have hY7 := hY6.alloc (.cells (mc zeroM) 28); have hb7 := below_alloc' hb6 (.cells (mc zeroM) 28); have hU7 : Blk (w6.alloc (.cells (mc zeroM) 28)) w6.heap.size (mc zeroM) 28 := Blk.new _ _ _) | ((with_reducible show wpList _ _ _ _ _ _); refine wpList_store_blk rfl 28 (.tmp 12) (.tmp 41) rfl w6.heap.size 0 (mc zeroM) rfl rfl (mc zeroM) 28 hU7 (by first | (rw [HzS.out, HzS.out]; omega) | (rw [HzS.out]; omega)) (by rw [HzS.out]; exact size_mach) (mc_one _) ?_; intro w8 hXw8 hkeep hsz hbl; clear hsz; rw [zero_over] at hXw8; have hbw8 := hbl w.heap.size w (hge6) hb7; clear hkeep hbl))
          go_ret2
          exact ⟨by rw [Hr.out]; try rfl, hbw8⟩
        · obtain ⟨SQ, hQ, h0Q⟩ := HG.out P SP HP.out h0P hB
          have Hhit := Lib.hid (fun (he : ltR (prA P M S) L (0 * S + qn) = Tm) => ordF_hit (M := M) (L := L) (S := S) (q := qn) (f := m - (k + 1)) (k := k) (P := P) hB (Eq.trans he HTm.out.symm))
          have Hon := Lib.hid (fun (he : ¬ ltR (prA P M S) L (0 * S + qn) = Tm) => ordF_on (M := M) (L := L) (S := S) (q := qn) (f := m - (k + 1)) (k := k) (P := P) hB (fun e => he (Eq.trans e HTm.out)))
          rw [hB] at HC
          clear hB
          generalize ltR (prA P M S) L (0 * S + qn) = R at *
          have HQ := Lib.hid hQ
          have HRs := Lib.hid (Hsz.out hQ)
          have HR1 : Hid (cut (mc R) 0 98 = mc R) := Lib.hid (cut_all _ _ HRs.out)
          have HRz : Hid (over (mc zeroM) 0 (mc R) = mc R) := Lib.hid (over_all _ _ (by rw [HRs.out, HzS.out]))
          have HRo : Hid (over (mc P) 0 (mc R) = mc R) := Lib.hid (over_all _ _ (by rw [HRs.out, HPs.out]))
          have Heq := Lib.hid (fun W => run_eq_mach hQ.ok HT.out.ok W)
          clear hQ
          by_cases he : R = Tm
          · have Hr : Hid (x = ((k : Int) + 1, 0)) := Lib.hid (by rw [← Hor.out]; exact Hhit.out he)
            rw [decide_eq_true he] at Heq
            clear he Hhit Hon
            go_wp2_with (first | (with_reducible show wpList _ _ _ _ _ _; refine wpList_load_blk rfl 28 (.tmp 10) rfl g10 0 rfl (mc P) _ (by first | exact hY) 98 (by rw [HPs.out]; omega) _ Try.underlying28 rfl size_mach ?_; rw [P1.out]) | (with_reducible show wpList _ _ _ _ _ _; refine wpList_load_blk rfl 28 (.tmp 3) rfl w.heap.size 0 rfl (mc M) _ (by first | exact hM) 98 F2.out _ Try.underlying28 rfl size_mach ?_; rw [F1.out]) | (go_at_call 46; refine (HC.out _).mono ?_; rintro e w6 ⟨rfl, hc6⟩; have hM6 := hM.keptAll hc6; have hT6 := hT.keptAll hc6; have hY6 := hY.keptAll hc6; have hb6 := below_step hbw hc6; have hl6 := hM6.lt; have hlT := hT6.lt; have hlY := hY6.lt; have hge6 := hb6.size; have hM7 := hM6.alloc (.cells (mc zeroM) 28); have hT7 := hT6.alloc (.cells (mc zeroM) 28); have hY7 := hY6.alloc (.cells (mc zeroM) 28); have hb7 := below_alloc' hb6 (.cells (mc zeroM) 28); have hU7 : Blk (w6.alloc (.cells (mc zeroM) 28)) w6.heap.size (mc zeroM) 28 := Blk.new _ _ _) | ((with_reducible show wpList _ _ _ _ _ _); refine wpList_store_blk rfl 28 (.tmp 12) (.tmp 41) rfl w6.heap.size 0 (mc R) rfl rfl (mc zeroM) 28 hU7 (by first | (rw [HRs.out, HzS.out]; omega) | (rw [HRs.out]; omega)) (by rw [HRs.out]; exact size_mach) (mc_one _) ?_; intro w8 hXw8 hkeep hsz hbl; clear hsz; rw [HRz.out] at hXw8; have hbw8 := hbl w.heap.size w (hge6) hb7; have hT8 := hkeep g9 _ _ (by omega) hT7; clear hkeep hbl) | (with_reducible show wpList _ _ _ _ _ _; refine wpList_load_blk rfl 28 (.tmp 12) rfl w6.heap.size 0 rfl (mc R) _ (by first | exact hXw8) 98 (by rw [HRs.out]; omega) _ Try.underlying28 rfl size_mach ?_; rw [HR1.out]) | (with_reducible show wpList _ _ _ _ _ _; refine wpList_load_blk rfl 28 (.tmp 9) rfl g9 0 rfl (mc Tm) _ (by first | exact hT8) 98 (by rw [HTs.out]; omega) _ Try.underlying28 rfl size_mach ?_; rw [HT1.out]) | ((with_reducible show wpList _ _ _ _ _ _); refine wpList_eql rfl 28 28 (.tmp 45) (.tmp 46) rfl (mc R) (mc Tm) (.bool true) rfl rfl (by kernel_rfl) (Heq.out _) ?_; (intro K hK; go_simp; refine hK _ ?_; clear hK K)))
            go_ret2
            exact ⟨by rw [Hr.out]; try rfl, hbw8⟩
          · have Hnx : Hid (ordF M L S qn (m - (k + 1)) (k + 1) R = x) := Lib.hid (by rw [← Hor.out]; exact (Hon.out he).symm)
            rw [decide_eq_false he] at Heq
            clear he Hhit Hon
            go_wp2_with (first | (with_reducible show wpList _ _ _ _ _ _; refine wpList_load_blk rfl 28 (.tmp 10) rfl g10 0 rfl (mc P) _ (by first | exact hY) 98 (by rw [HPs.out]; omega) _ Try.underlying28 rfl size_mach ?_; rw [P1.out]) | (with_reducible show wpList _ _ _ _ _ _; refine wpList_load_blk rfl 28 (.tmp 3) rfl w.heap.size 0 rfl (mc M) _ (by first | exact hM) 98 F2.out _ Try.underlying28 rfl size_mach ?_; rw [F1.out]) | (go_at_call 46; refine (HC.out _).mono ?_; rintro e w6 ⟨rfl, hc6⟩; have hM6 := hM.keptAll hc6; have hT6 := hT.keptAll hc6; have hY6 := hY.keptAll hc6; have hb6 := below_step hbw hc6; have hl6 := hM6.lt; have hlT := hT6.lt; have hlY := hY6.lt; have hge6 := hb6.size; have hM7 := hM6.alloc (.cells (mc zeroM) 28); have hT7 := hT6.alloc (.cells (mc zeroM) 28); have hY7 := hY6.alloc (.cells (mc zeroM) 28); have hb7 := below_alloc' hb6 (.cells (mc zeroM) 28); have hU7 : Blk (w6.alloc (.cells (mc zeroM) 28)) w6.heap.size (mc zeroM) 28 := Blk.new _ _ _) | ((with_reducible show wpList _ _ _ _ _ _); refine wpList_store_blk rfl 28 (.tmp 12) (.tmp 41) rfl w6.heap.size 0 (mc R) rfl rfl (mc zeroM) 28 hU7 (by first | (rw [HRs.out, HzS.out]; omega) | (rw [HRs.out]; omega)) (by rw [HRs.out]; exact size_mach) (mc_one _) ?_; intro w8 hXw8 hkeep hsz hbl; clear hsz; rw [HRz.out] at hXw8; have hbw8 := hbl w.heap.size w (hge6) hb7; have hT8 := hkeep g9 _ _ (by omega) hT7; have hM8 := hkeep w.heap.size _ _ (by omega) hM7; have hY8 := hkeep g10 _ _ (by omega) hY7; clear hkeep hbl) | (with_reducible show wpList _ _ _ _ _ _; refine wpList_load_blk rfl 28 (.tmp 12) rfl w6.heap.size 0 rfl (mc R) _ (by first | exact hXw8) 98 (by rw [HRs.out]; omega) _ Try.underlying28 rfl size_mach ?_; rw [HR1.out]) | (with_reducible show wpList _ _ _ _ _ _; refine wpList_load_blk rfl 28 (.tmp 9) rfl g9 0 rfl (mc Tm) _ (by first | exact hT8) 98 (by rw [HTs.out]; omega) _ Try.underlying28 rfl size_mach ?_; rw [HT1.out]) | ((with_reducible show wpList _ _ _ _ _ _); refine wpList_eql rfl 28 28 (.tmp 45) (.tmp 46) rfl (mc R) (mc Tm) (.bool false) rfl rfl (by kernel_rfl) (Heq.out _) ?_; (intro K hK; go_simp; refine hK _ ?_; clear hK K)) | ((with_reducible show wpList _ _ _ _ _ _); refine wpList_store_blk rfl 28 (.tmp 10) (.tmp 49) rfl g10 0 (mc R) rfl rfl (mc P) 28 hY8 (by first | (rw [HRs.out, HPs.out]; omega) | (rw [HRs.out]; omega)) (by rw [HRs.out]; exact size_mach) (mc_one _) ?_; intro w9 hXw9 hkeep hsz hbl; clear hsz; rw [HRo.out] at hXw9; have hbw9 := hbl w.heap.size w (hge4) hbw8; have hM9 := hkeep w.heap.size _ _ (by omega) hM8; have hT9 := hkeep g9 _ _ (by omega) hT8; clear hkeep hbl))
            go_roundw
            case rel => exact ⟨k + 1, R, SQ, by omega, by go_num, HQ.out, h0Q, Hnx.out, hM9, hT9, hXw9, hbw9⟩
            case measure => simp [intOf] <;> omega
      · obtain rfl : m = k := by omega
        have Hr : Hid (x = (0, 4)) := Lib.hid (by rw [← Hor.out, Nat.sub_self]; rfl)
        have hki : ¬ (m : Int) + 1 ≤ (m : Int) := by omega
        go_wp2
        go_ret2
        exact ⟨by rw [Hr.out]; try rfl, hbw⟩
  · by_cases hst : stC M q = 0
    · obtain ⟨hp, hin⟩ := pwL_two h0 hst
      have HX : Hid (orX M q n = (0, 2)) := Lib.hid (by unfold orX; rw [if_neg h0, hp])
      have HSt := Lib.hid (fun W => l07State_calls M hok q W)
      rw [hst] at HSt
      have HIn := Lib.hid (fun W => l01In_calls n 1 16 W)
      rw [hin] at HIn
      clear h0 hst hp hin
      go_enter Try.func31, Try.ntmps31
      go_wp2_with (first | (with_reducible show wpList _ _ _ _ _ _; refine wpList_load_blk rfl 28 (.tmp 3) rfl w.heap.size 0 rfl (mc M) _ (by first | exact hM0) 98 F2.out _ Try.underlying28 rfl size_mach ?_; rw [F1.out]) | (go_at_call 51; refine (HSt.out _).mono ?_; rintro e w1 ⟨rfl, hc1⟩; have hb1 := below_step hb0 hc1) | (go_at_call 42; refine (HIn.out _).mono ?_; rintro e w' ⟨rfl, rfl⟩))
      go_ret2
      exact ⟨by rw [HX.out]; try rfl, hb1⟩
    · have HX : Hid (orX M q n = (0, stC M q)) := Lib.hid (by unfold orX; rw [if_neg h0, pwL_one hst])
      have hne : (stC M q == 0) = false := by simpa using hst
      have hne2 : (stC M q != 0) = true := by simpa using hst
      clear h0 hst
      go_enter Try.func31, Try.ntmps31
      go_wp2_with (first | (with_reducible show wpList _ _ _ _ _ _; refine wpList_load_blk rfl 28 (.tmp 3) rfl w.heap.size 0 rfl (mc M) _ (by first | exact hM0) 98 F2.out _ Try.underlying28 rfl size_mach ?_; rw [F1.out]) | (go_at_call 51; refine (l07State_calls M hok q _).mono ?_; rintro e w1 ⟨rfl, hc1⟩; have hb1 := below_step hb0 hc1))
      go_ret2
      exact ⟨by rw [HX.out]; try rfl, hb1⟩
end Go.Proofs.Ytkkooafjpancoaa
