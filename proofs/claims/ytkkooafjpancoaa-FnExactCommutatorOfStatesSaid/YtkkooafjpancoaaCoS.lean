/- 'CommutatorOfStates': the model. Written by gen/genco.py. -/
import Derived.Test.YtkkooafjpancoaaCoI
namespace Go.Proofs.Ytkkooafjpancoaa
open Go.RowKit

theorem twoC_st {M : Mach} {q r : Int} : (stC M q = 0 → inS M r = true → twoC M q M r = 0) ∧ (stC M q = 0 → inS M r = false → twoC M q M r = 2) ∧ (¬ stC M q = 0 → twoC M q M r = stC M q) := by
  unfold twoC stC
  cases isMach M <;> cases inS M q <;> cases inS M r <;> simp
theorem lt_good {M J : Mach} {L S T q r : Nat} (hM : Good M L S) (hJ : Good J L T) (hq : q < S) (hr : r < T) (h : ltB (prA M J T) L (q * T + r) = true) : ∃ SQ, Good (ltR (prA M J T) L (q * T + r)) L SQ ∧ 0 < SQ := by
  have hidx : q * T + r < S * T := by
    calc q * T + r < q * T + T := by omega
      _ = (q + 1) * T := by rw [Nat.succ_mul]
      _ ≤ S * T := Nat.mul_le_mul_right _ (by omega)
  obtain ⟨h1, h2⟩ := ltB_yes h
  rw [h2]
  exact ⟨_, prodM_good hM hJ hidx h1, bAll_pos _ _ _⟩

set_option maxRecDepth 100000 in
set_option maxHeartbeats 3000000 in
theorem sCommutatorOfStates_calls (M : Mach) (hok : M.Ok) (q r : Int) (w : World) :
    Calls Try.prog 29 #[.agg (mc M), .int .i64 q, .int .i64 r] w fun e w' => e = .returned (.tuple #[.agg (mc (coR M q r)), .int .i64 (coC M q r)]) ∧ Below w.heap.size w w' := by
  have hz := zero_mach
  have F1 : Hid (cut (mc M) 0 98 = mc M) := Lib.hid (cut_all _ _ (mc_size hok))
  have F2 : Hid (0 + 98 ≤ (mc M).size) := Lib.hid (by rw [mc_size hok]; omega)
  have HzS : Hid ((mc zeroM).size = 98) := Lib.hid (mc_size zeroM_ok)
  have hM0 : Blk ((w.alloc (.cells (mc M) 28)).alloc (.cells (mc zeroM) 28)) w.heap.size (mc M) 28 := (Blk.new w _ _).alloc _
  have hX0 : Blk ((w.alloc (.cells (mc M) 28)).alloc (.cells (mc zeroM) 28)) (w.heap.size + 1) (mc zeroM) 28 := Blk.new_at _ _ _ _ (by simp)
  have hb0 : Below w.heap.size w ((w.alloc (.cells (mc M) 28)).alloc (.cells (mc zeroM) 28)) := by show Below _ _ (World.alloc _ _); (repeat (first | exact Below.refl _ _ | refine below_drew' ?_ | refine below_drewN' ?_ _ | refine below_alloc' ?_ _ | refine below_set' ?_ (by (try simp); (try omega)) _ | refine below_step ?_ (by assumption)))
  by_cases h0 : twoC M q M r = 0
  · obtain ⟨L, S, qn, rn, hg, rfl, rfl, hq, hr⟩ := two_own hok h0
    obtain ⟨h1, _, h3, h4, _⟩ := twoC_zero h0
    obtain ⟨mL2, mL3, mS1, mS16⟩ := mach_small h1
    have wM := wrap_pred ⟨mS1, mS16⟩
    have hst : stC M qn = 0 := by unfold stC; rw [if_pos h1, if_pos h3]
    have HSt := Lib.hid (fun W => l07State_calls M hok qn W)
    rw [hst] at HSt
    have HIn := Lib.hid (fun W => l01In_calls rn 0 (M.S - 1) W)
    rw [inS_model, h4] at HIn
    have HInv := Lib.hid (fun W => l01Inverse_calls M L S hg W)
    have hI := hg.inv
    have HIs := Lib.hid (mc_size hI.ok)
    have hco := co_first (r := rn) hg hq
    have hsp := st_prod hI hI hq hr
    have HP1 := Lib.hid (fun W => l07Product_calls (invM M L S) (invM M L S) L S S hI hI qn rn hq hr W)
    have I1 : Hid (cut (mc (invM M L S)) 0 98 = mc (invM M L S)) := Lib.hid (cut_all _ _ HIs.out)
    have HoI : Hid (over (mc zeroM) 0 (mc (invM M L S)) = mc (invM M L S)) := Lib.hid (over_all _ _ (by rw [HIs.out, HzS.out]))
    have T0 := Lib.hid trivial; have T1 := Lib.hid trivial; have T2 := Lib.hid trivial
    have c1 := facs_cons (L := L) (P := stM (invM M L S) L qn) ⟨invM M L S, S, 0, rn⟩ [⟨M, S, 0, qn⟩, ⟨M, S, 0, rn⟩]
    rw [show ltB (prA (stM (invM M L S) L qn) (Fac.mk (invM M L S) S 0 rn).m (Fac.mk (invM M L S) S 0 rn).S) L (0 * (Fac.mk (invM M L S) S 0 rn).S + (Fac.mk (invM M L S) S 0 rn).q) = ltB (prA (invM M L S) (invM M L S) S) L (qn * S + rn) from hsp.2, show ltR (prA (stM (invM M L S) L qn) (Fac.mk (invM M L S) S 0 rn).m (Fac.mk (invM M L S) S 0 rn).S) L (0 * (Fac.mk (invM M L S) S 0 rn).S + (Fac.mk (invM M L S) S 0 rn).q) = ltR (prA (invM M L S) (invM M L S) S) L (qn * S + rn) from hsp.1, ← hco] at c1
    cases hB1 : ltB (prA (invM M L S) (invM M L S) S) L (qn * S + rn)
    · have HX : Hid ((coX M L S qn rn).2 = false) := Lib.hid (c1.2 hB1)
      rw [hB1, (ltB_no hB1).2] at HP1
      have HCo : Hid (coC M qn rn = 3) := Lib.hid (by unfold coC; rw [if_pos h0, coX_eq hg]; unfold fC; rw [HX.out]; exact if_neg (by simp))
      have HRo : Hid (coR M qn rn = zeroM) := Lib.hid (by unfold coR; rw [if_pos h0, coX_eq hg]; unfold fR; rw [HX.out]; exact if_neg (by simp))
      clear c1 hco hsp hB1 h0 hst h1 h3 h4 hI
      generalize invM M L S = I at *
      go_enter Try.func29, Try.ntmps29
      go_wp2_with (first | (with_reducible show wpList _ _ _ _ _ _; refine wpList_load_blk rfl 28 (.tmp 3) rfl w.heap.size 0 rfl (mc M) _ (by first | exact hM9 | exact hM8 | exact hM7 | exact hM6 | exact hM5 | exact hM4 | exact hM1 | exact hM0) 98 F2.out _ Try.underlying28 rfl size_mach ?_; rw [F1.out]) | (go_at_call 51; refine (HSt.out _).mono ?_; rintro e w1 ⟨rfl, hc1⟩; have hM1 := hM0.keptAll hc1; have hX1 := hX0.keptAll hc1; have hb1 := below_step hb0 hc1; have sM := (hM1.cell 1).trans (mc_S M)) | (go_at_call 42; refine (HIn.out _).mono ?_; rintro e w' ⟨rfl, rfl⟩) | (go_at_call 40; refine (HInv.out _).mono ?_; rintro e w2 ⟨rfl, hc2⟩; have hlt2 := (hX1.keptAll hc2).lt; have hM3 := (hM1.keptAll hc2).alloc (.cells (mc zeroM) 28); have hX3 := (hX1.keptAll hc2).alloc (.cells (mc zeroM) 28); have hb2 := below_step hb1 hc2; have hge2 := hb2.size; have hb3 := below_alloc' hb2 (.cells (mc zeroM) 28); have hY3 : Blk (w2.alloc (.cells (mc zeroM) 28)) w2.heap.size (mc zeroM) 28 := Blk.new _ _ _) | ((with_reducible show wpList _ _ _ _ _ _); refine wpList_store_blk rfl 28 (.tmp 9) (.tmp 34) rfl w2.heap.size 0 (mc I) rfl rfl (mc zeroM) 28 hY3 (by first | (rw [HIs.out, HzS.out]; omega) | (rw [HIs.out]; omega)) (by rw [HIs.out]; exact size_mach) (mc_one _) ?_; intro w3 hXw3 hkeep hsz hbl; clear hsz; rw [HoI.out] at hXw3; have hbw3 := hbl w.heap.size w (hge2) hb3; have hM4 := hkeep w.heap.size _ _ (by omega) hM3; have hX4 := hkeep (w.heap.size + 1) _ _ (by omega) hX3; have hI4 := hXw3; have hb4 := hbw3; clear hkeep hbl hbw3 hXw3) | (with_reducible show wpList _ _ _ _ _ _; refine wpList_load_blk rfl 28 (.tmp 9) rfl w2.heap.size 0 rfl (mc I) _ (by first | exact hI4) 98 (by rw [HIs.out]; omega) _ Try.underlying28 rfl size_mach ?_; rw [I1.out]) | (go_at_call 46; clear T0; refine (HP1.out _).mono ?_; rintro e v0 ⟨rfl, hd0⟩; have hltv0 := (hX4.keptAll hd0).lt; have hMv0 := (hM4.keptAll hd0).alloc (.cells (mc zeroM) 28); have hXv0 := (hX4.keptAll hd0).alloc (.cells (mc zeroM) 28); have hbp0 := below_step hb4 hd0; have hgv0 := hbp0.size; have hbv0 := below_alloc' hbp0 (.cells (mc zeroM) 28); have hYv0 : Blk (v0.alloc (.cells (mc zeroM) 28)) v0.heap.size (mc zeroM) 28 := Blk.new _ _ _) | ((with_reducible show wpList _ _ _ _ _ _); refine wpList_store_blk rfl 28 (.tmp 10) (.tmp 41) rfl v0.heap.size 0 (mc zeroM) rfl rfl (mc zeroM) 28 hYv0 (by first | (rw [HzS.out, HzS.out]; omega) | (rw [HzS.out]; omega)) (by rw [HzS.out]; exact size_mach) (mc_one _) ?_; intro u0 hXu0 hkeep hsz hbl; clear hsz; rw [zero_over] at hXu0; have hbu0 := hbl w.heap.size w (hgv0) hbv0; have hM5 := hkeep w.heap.size _ _ (by omega) hMv0; have hX5 := hkeep (w.heap.size + 1) _ _ (by omega) hXv0; clear hkeep hbl) | ((with_reducible show wpList _ _ _ _ _ _); refine wpList_store_blk rfl 28 (.tmp 6) (.tmp 45) rfl (w.heap.size + 1) 0 (mc zeroM) rfl rfl (mc zeroM) 28 hX5 (by first | (rw [HzS.out, HzS.out]; omega) | (rw [HzS.out]; omega)) (by rw [HzS.out]; exact size_mach) (mc_one _) ?_; intro wz hXwz hkeep hsz hbl; clear hsz; rw [zero_over] at hXwz; have hbwz := hbl w.heap.size w (by omega) hbu0; clear hkeep hbl))
      exact bodyPost_cell1 rfl rfl hXwz Try.underlying28 rfl (by rw [HzS.out]; exact size_mach) rfl ⟨by rw [HRo.out, HCo.out]; rfl, hbwz⟩
    · obtain ⟨S1, hg1, h01⟩ := lt_good hI hI hq hr hB1
      have hX1 := c1.1 hB1
      rw [hB1] at HP1
      have hc2 := facs_cons (L := L) (P := ltR (prA (invM M L S) (invM M L S) S) L (qn * S + rn)) ⟨M, S, 0, qn⟩ [⟨M, S, 0, rn⟩]
      rw [← hX1] at hc2
      clear c1 hB1 hco hsp hX1
      obtain ⟨P1, hP1⟩ : ∃ P, ltR (prA (invM M L S) (invM M L S) S) L (qn * S + rn) = P := ⟨_, rfl⟩
      rw [hP1] at hg1 HP1 hc2
      clear hP1
      have HS1 := Lib.hid (mc_size hg1.ok)
      have HU1 : Hid (cut (mc P1) 0 98 = mc P1) := Lib.hid (cut_all _ _ HS1.out)
      have HO1 : Hid (over (mc zeroM) 0 (mc P1) = mc P1) := Lib.hid (over_all _ _ (by rw [HS1.out, HzS.out]))
      have HP2 := Lib.hid (fun W => l07Product_calls P1 M L S1 S hg1 hg 0 qn h01 hq W)
      cases hB2 : ltB (prA P1 M S) L (0 * S + qn)
      · have HX : Hid ((coX M L S qn rn).2 = false) := Lib.hid (hc2.2 hB2)
        rw [hB2, (ltB_no hB2).2] at HP2
        have HCo : Hid (coC M qn rn = 3) := Lib.hid (by unfold coC; rw [if_pos h0, coX_eq hg]; unfold fC; rw [HX.out]; exact if_neg (by simp))
        have HRo : Hid (coR M qn rn = zeroM) := Lib.hid (by unfold coR; rw [if_pos h0, coX_eq hg]; unfold fR; rw [HX.out]; exact if_neg (by simp))
        clear hc2 hB2 h0 hst h1 h3 h4 hI hg1
        generalize invM M L S = I at *
        go_enter Try.func29, Try.ntmps29
        go_wp2_with (first | (with_reducible show wpList _ _ _ _ _ _; refine wpList_load_blk rfl 28 (.tmp 3) rfl w.heap.size 0 rfl (mc M) _ (by first | exact hM9 | exact hM8 | exact hM7 | exact hM6 | exact hM5 | exact hM4 | exact hM1 | exact hM0) 98 F2.out _ Try.underlying28 rfl size_mach ?_; rw [F1.out]) | (go_at_call 51; refine (HSt.out _).mono ?_; rintro e w1 ⟨rfl, hc1⟩; have hM1 := hM0.keptAll hc1; have hX1 := hX0.keptAll hc1; have hb1 := below_step hb0 hc1; have sM := (hM1.cell 1).trans (mc_S M)) | (go_at_call 42; refine (HIn.out _).mono ?_; rintro e w' ⟨rfl, rfl⟩) | (go_at_call 40; refine (HInv.out _).mono ?_; rintro e w2 ⟨rfl, hc2⟩; have hlt2 := (hX1.keptAll hc2).lt; have hM3 := (hM1.keptAll hc2).alloc (.cells (mc zeroM) 28); have hX3 := (hX1.keptAll hc2).alloc (.cells (mc zeroM) 28); have hb2 := below_step hb1 hc2; have hge2 := hb2.size; have hb3 := below_alloc' hb2 (.cells (mc zeroM) 28); have hY3 : Blk (w2.alloc (.cells (mc zeroM) 28)) w2.heap.size (mc zeroM) 28 := Blk.new _ _ _) | ((with_reducible show wpList _ _ _ _ _ _); refine wpList_store_blk rfl 28 (.tmp 9) (.tmp 34) rfl w2.heap.size 0 (mc I) rfl rfl (mc zeroM) 28 hY3 (by first | (rw [HIs.out, HzS.out]; omega) | (rw [HIs.out]; omega)) (by rw [HIs.out]; exact size_mach) (mc_one _) ?_; intro w3 hXw3 hkeep hsz hbl; clear hsz; rw [HoI.out] at hXw3; have hbw3 := hbl w.heap.size w (hge2) hb3; have hM4 := hkeep w.heap.size _ _ (by omega) hM3; have hX4 := hkeep (w.heap.size + 1) _ _ (by omega) hX3; have hI4 := hXw3; have hb4 := hbw3; clear hkeep hbl hbw3 hXw3) | (with_reducible show wpList _ _ _ _ _ _; refine wpList_load_blk rfl 28 (.tmp 9) rfl w2.heap.size 0 rfl (mc I) _ (by first | exact hI4) 98 (by rw [HIs.out]; omega) _ Try.underlying28 rfl size_mach ?_; rw [I1.out]) | (go_at_call 46; clear T0; refine (HP1.out _).mono ?_; rintro e v0 ⟨rfl, hd0⟩; have hltv0 := (hX4.keptAll hd0).lt; have hMv0 := (hM4.keptAll hd0).alloc (.cells (mc zeroM) 28); have hXv0 := (hX4.keptAll hd0).alloc (.cells (mc zeroM) 28); have hbp0 := below_step hb4 hd0; have hgv0 := hbp0.size; have hbv0 := below_alloc' hbp0 (.cells (mc zeroM) 28); have hYv0 : Blk (v0.alloc (.cells (mc zeroM) 28)) v0.heap.size (mc zeroM) 28 := Blk.new _ _ _) | ((with_reducible show wpList _ _ _ _ _ _); refine wpList_store_blk rfl 28 (.tmp 10) (.tmp 41) rfl v0.heap.size 0 (mc P1) rfl rfl (mc zeroM) 28 hYv0 (by first | (rw [HS1.out, HzS.out]; omega) | (rw [HS1.out]; omega)) (by rw [HS1.out]; exact size_mach) (mc_one _) ?_; intro u0 hXu0 hkeep hsz hbl; clear hsz; rw [HO1.out] at hXu0; have hbu0 := hbl w.heap.size w (hgv0) hbv0; have hM5 := hkeep w.heap.size _ _ (by omega) hMv0; have hX5 := hkeep (w.heap.size + 1) _ _ (by omega) hXv0; clear hkeep hbl) | (with_reducible show wpList _ _ _ _ _ _; refine wpList_load_blk rfl 28 (.tmp 10) rfl v0.heap.size 0 rfl (mc P1) _ (by first | exact hXu0) 98 (by rw [HS1.out]; omega) _ Try.underlying28 rfl size_mach ?_; rw [HU1.out]) | (go_at_call 46; clear T1; refine (HP2.out _).mono ?_; rintro e v1 ⟨rfl, hd1⟩; have hltv1 := (hX5.keptAll hd1).lt; have hMv1 := (hM5.keptAll hd1).alloc (.cells (mc zeroM) 28); have hXv1 := (hX5.keptAll hd1).alloc (.cells (mc zeroM) 28); have hbp1 := below_step hbu0 hd1; have hgv1 := hbp1.size; have hbv1 := below_alloc' hbp1 (.cells (mc zeroM) 28); have hYv1 : Blk (v1.alloc (.cells (mc zeroM) 28)) v1.heap.size (mc zeroM) 28 := Blk.new _ _ _) | ((with_reducible show wpList _ _ _ _ _ _); refine wpList_store_blk rfl 28 (.tmp 12) (.tmp 51) rfl v1.heap.size 0 (mc zeroM) rfl rfl (mc zeroM) 28 hYv1 (by first | (rw [HzS.out, HzS.out]; omega) | (rw [HzS.out]; omega)) (by rw [HzS.out]; exact size_mach) (mc_one _) ?_; intro u1 hXu1 hkeep hsz hbl; clear hsz; rw [zero_over] at hXu1; have hbu1 := hbl w.heap.size w (hgv1) hbv1; have hM6 := hkeep w.heap.size _ _ (by omega) hMv1; have hX6 := hkeep (w.heap.size + 1) _ _ (by omega) hXv1; clear hkeep hbl) | ((with_reducible show wpList _ _ _ _ _ _); refine wpList_store_blk rfl 28 (.tmp 6) (.tmp 55) rfl (w.heap.size + 1) 0 (mc zeroM) rfl rfl (mc zeroM) 28 hX6 (by first | (rw [HzS.out, HzS.out]; omega) | (rw [HzS.out]; omega)) (by rw [HzS.out]; exact size_mach) (mc_one _) ?_; intro wz hXwz hkeep hsz hbl; clear hsz; rw [zero_over] at hXwz; have hbwz := hbl w.heap.size w (by omega) hbu1; clear hkeep hbl))
        exact bodyPost_cell1 rfl rfl hXwz Try.underlying28 rfl (by rw [HzS.out]; exact size_mach) rfl ⟨by rw [HRo.out, HCo.out]; rfl, hbwz⟩
      · obtain ⟨S2, hg2, h02⟩ := lt_good hg1 hg h01 hq hB2
        have hX2 := hc2.1 hB2
        rw [show ltR (prA P1 (Fac.mk M S 0 qn).m (Fac.mk M S 0 qn).S) L (0 * (Fac.mk M S 0 qn).S + (Fac.mk M S 0 qn).q) = ltR (prA P1 M S) L (0 * S + qn) from rfl] at hX2
        rw [hB2] at HP2
        have hc3 := facs_cons (L := L) (P := ltR (prA P1 M S) L (0 * S + qn)) ⟨M, S, 0, rn⟩ []
        rw [← hX2] at hc3
        clear hc2 hB2 hX2
        obtain ⟨P2, hP2⟩ : ∃ P, ltR (prA P1 M S) L (0 * S + qn) = P := ⟨_, rfl⟩
        rw [hP2] at hg2 HP2 hc3
        clear hP2
        have HS2 := Lib.hid (mc_size hg2.ok)
        have HU2 : Hid (cut (mc P2) 0 98 = mc P2) := Lib.hid (cut_all _ _ HS2.out)
        have HO2 : Hid (over (mc zeroM) 0 (mc P2) = mc P2) := Lib.hid (over_all _ _ (by rw [HS2.out, HzS.out]))
        have HP3 := Lib.hid (fun W => l07Product_calls P2 M L S2 S hg2 hg 0 rn h02 hr W)
        cases hB3 : ltB (prA P2 M S) L (0 * S + rn)
        · have HX : Hid ((coX M L S qn rn).2 = false) := Lib.hid (hc3.2 hB3)
          rw [hB3, (ltB_no hB3).2] at HP3
          have HCo : Hid (coC M qn rn = 3) := Lib.hid (by unfold coC; rw [if_pos h0, coX_eq hg]; unfold fC; rw [HX.out]; exact if_neg (by simp))
          have HRo : Hid (coR M qn rn = zeroM) := Lib.hid (by unfold coR; rw [if_pos h0, coX_eq hg]; unfold fR; rw [HX.out]; exact if_neg (by simp))
          clear hc3 hB3 h0 hst h1 h3 h4 hI hg1 hg2
          generalize invM M L S = I at *
          go_enter Try.func29, Try.ntmps29
          go_wp2_with (first | (with_reducible show wpList _ _ _ _ _ _; refine wpList_load_blk rfl 28 (.tmp 3) rfl w.heap.size 0 rfl (mc M) _ (by first | exact hM9 | exact hM8 | exact hM7 | exact hM6 | exact hM5 | exact hM4 | exact hM1 | exact hM0) 98 F2.out _ Try.underlying28 rfl size_mach ?_; rw [F1.out]) | (go_at_call 51; refine (HSt.out _).mono ?_; rintro e w1 ⟨rfl, hc1⟩; have hM1 := hM0.keptAll hc1; have hX1 := hX0.keptAll hc1; have hb1 := below_step hb0 hc1; have sM := (hM1.cell 1).trans (mc_S M)) | (go_at_call 42; refine (HIn.out _).mono ?_; rintro e w' ⟨rfl, rfl⟩) | (go_at_call 40; refine (HInv.out _).mono ?_; rintro e w2 ⟨rfl, hc2⟩; have hlt2 := (hX1.keptAll hc2).lt; have hM3 := (hM1.keptAll hc2).alloc (.cells (mc zeroM) 28); have hX3 := (hX1.keptAll hc2).alloc (.cells (mc zeroM) 28); have hb2 := below_step hb1 hc2; have hge2 := hb2.size; have hb3 := below_alloc' hb2 (.cells (mc zeroM) 28); have hY3 : Blk (w2.alloc (.cells (mc zeroM) 28)) w2.heap.size (mc zeroM) 28 := Blk.new _ _ _) | ((with_reducible show wpList _ _ _ _ _ _); refine wpList_store_blk rfl 28 (.tmp 9) (.tmp 34) rfl w2.heap.size 0 (mc I) rfl rfl (mc zeroM) 28 hY3 (by first | (rw [HIs.out, HzS.out]; omega) | (rw [HIs.out]; omega)) (by rw [HIs.out]; exact size_mach) (mc_one _) ?_; intro w3 hXw3 hkeep hsz hbl; clear hsz; rw [HoI.out] at hXw3; have hbw3 := hbl w.heap.size w (hge2) hb3; have hM4 := hkeep w.heap.size _ _ (by omega) hM3; have hX4 := hkeep (w.heap.size + 1) _ _ (by omega) hX3; have hI4 := hXw3; have hb4 := hbw3; clear hkeep hbl hbw3 hXw3) | (with_reducible show wpList _ _ _ _ _ _; refine wpList_load_blk rfl 28 (.tmp 9) rfl w2.heap.size 0 rfl (mc I) _ (by first | exact hI4) 98 (by rw [HIs.out]; omega) _ Try.underlying28 rfl size_mach ?_; rw [I1.out]) | (go_at_call 46; clear T0; refine (HP1.out _).mono ?_; rintro e v0 ⟨rfl, hd0⟩; have hltv0 := (hX4.keptAll hd0).lt; have hMv0 := (hM4.keptAll hd0).alloc (.cells (mc zeroM) 28); have hXv0 := (hX4.keptAll hd0).alloc (.cells (mc zeroM) 28); have hbp0 := below_step hb4 hd0; have hgv0 := hbp0.size; have hbv0 := below_alloc' hbp0 (.cells (mc zeroM) 28); have hYv0 : Blk (v0.alloc (.cells (mc zeroM) 28)) v0.heap.size (mc zeroM) 28 := Blk.new _ _ _) | ((with_reducible show wpList _ _ _ _ _ _); refine wpList_store_blk rfl 28 (.tmp 10) (.tmp 41) rfl v0.heap.size 0 (mc P1) rfl rfl (mc zeroM) 28 hYv0 (by first | (rw [HS1.out, HzS.out]; omega) | (rw [HS1.out]; omega)) (by rw [HS1.out]; exact size_mach) (mc_one _) ?_; intro u0 hXu0 hkeep hsz hbl; clear hsz; rw [HO1.out] at hXu0; have hbu0 := hbl w.heap.size w (hgv0) hbv0; have hM5 := hkeep w.heap.size _ _ (by omega) hMv0; have hX5 := hkeep (w.heap.size + 1) _ _ (by omega) hXv0; clear hkeep hbl) | (with_reducible show wpList _ _ _ _ _ _; refine wpList_load_blk rfl 28 (.tmp 10) rfl v0.heap.size 0 rfl (mc P1) _ (by first | exact hXu0) 98 (by rw [HS1.out]; omega) _ Try.underlying28 rfl size_mach ?_; rw [HU1.out]) | (go_at_call 46; clear T1; refine (HP2.out _).mono ?_; rintro e v1 ⟨rfl, hd1⟩; have hltv1 := (hX5.keptAll hd1).lt; have hMv1 := (hM5.keptAll hd1).alloc (.cells (mc zeroM) 28); have hXv1 := (hX5.keptAll hd1).alloc (.cells (mc zeroM) 28); have hbp1 := below_step hbu0 hd1; have hgv1 := hbp1.size; have hbv1 := below_alloc' hbp1 (.cells (mc zeroM) 28); have hYv1 : Blk (v1.alloc (.cells (mc zeroM) 28)) v1.heap.size (mc zeroM) 28 := Blk.new _ _ _) | ((with_reducible show wpList _ _ _ _ _ _); refine wpList_store_blk rfl 28 (.tmp 12) (.tmp 51) rfl v1.heap.size 0 (mc P2) rfl rfl (mc zeroM) 28 hYv1 (by first | (rw [HS2.out, HzS.out]; omega) | (rw [HS2.out]; omega)) (by rw [HS2.out]; exact size_mach) (mc_one _) ?_; intro u1 hXu1 hkeep hsz hbl; clear hsz; rw [HO2.out] at hXu1; have hbu1 := hbl w.heap.size w (hgv1) hbv1; have hM6 := hkeep w.heap.size _ _ (by omega) hMv1; have hX6 := hkeep (w.heap.size + 1) _ _ (by omega) hXv1; clear hkeep hbl) | (with_reducible show wpList _ _ _ _ _ _; refine wpList_load_blk rfl 28 (.tmp 12) rfl v1.heap.size 0 rfl (mc P2) _ (by first | exact hXu1) 98 (by rw [HS2.out]; omega) _ Try.underlying28 rfl size_mach ?_; rw [HU2.out]) | (go_at_call 46; clear T2; refine (HP3.out _).mono ?_; rintro e v2 ⟨rfl, hd2⟩; have hltv2 := (hX6.keptAll hd2).lt; have hMv2 := (hM6.keptAll hd2).alloc (.cells (mc zeroM) 28); have hXv2 := (hX6.keptAll hd2).alloc (.cells (mc zeroM) 28); have hbp2 := below_step hbu1 hd2; have hgv2 := hbp2.size; have hbv2 := below_alloc' hbp2 (.cells (mc zeroM) 28); have hYv2 : Blk (v2.alloc (.cells (mc zeroM) 28)) v2.heap.size (mc zeroM) 28 := Blk.new _ _ _) | ((with_reducible show wpList _ _ _ _ _ _); refine wpList_store_blk rfl 28 (.tmp 14) (.tmp 61) rfl v2.heap.size 0 (mc zeroM) rfl rfl (mc zeroM) 28 hYv2 (by first | (rw [HzS.out, HzS.out]; omega) | (rw [HzS.out]; omega)) (by rw [HzS.out]; exact size_mach) (mc_one _) ?_; intro u2 hXu2 hkeep hsz hbl; clear hsz; rw [zero_over] at hXu2; have hbu2 := hbl w.heap.size w (hgv2) hbv2; have hM7 := hkeep w.heap.size _ _ (by omega) hMv2; have hX7 := hkeep (w.heap.size + 1) _ _ (by omega) hXv2; clear hkeep hbl) | ((with_reducible show wpList _ _ _ _ _ _); refine wpList_store_blk rfl 28 (.tmp 6) (.tmp 65) rfl (w.heap.size + 1) 0 (mc zeroM) rfl rfl (mc zeroM) 28 hX7 (by first | (rw [HzS.out, HzS.out]; omega) | (rw [HzS.out]; omega)) (by rw [HzS.out]; exact size_mach) (mc_one _) ?_; intro wz hXwz hkeep hsz hbl; clear hsz; rw [zero_over] at hXwz; have hbwz := hbl w.heap.size w (by omega) hbu2; clear hkeep hbl))
          exact bodyPost_cell1 rfl rfl hXwz Try.underlying28 rfl (by rw [HzS.out]; exact size_mach) rfl ⟨by rw [HRo.out, HCo.out]; rfl, hbwz⟩
        · obtain ⟨S3, hg3, h03⟩ := lt_good hg2 hg h02 hr hB3
          have hX3' := hc3.1 hB3
          rw [show ltR (prA P2 (Fac.mk M S 0 rn).m (Fac.mk M S 0 rn).S) L (0 * (Fac.mk M S 0 rn).S + (Fac.mk M S 0 rn).q) = ltR (prA P2 M S) L (0 * S + rn) from rfl, show facs L (ltR (prA P2 M S) L (0 * S + rn)) [] = (ltR (prA P2 M S) L (0 * S + rn), true) from rfl] at hX3'
          rw [hB3] at HP3
          have HX := Lib.hid hX3'
          clear hc3 hB3 hX3'
          obtain ⟨P3, hP3⟩ : ∃ P, ltR (prA P2 M S) L (0 * S + rn) = P := ⟨_, rfl⟩
          rw [hP3] at hg3 HP3 HX
          clear hP3
          have HS3 := Lib.hid (mc_size hg3.ok)
          have HU3 : Hid (cut (mc P3) 0 98 = mc P3) := Lib.hid (cut_all _ _ HS3.out)
          have HO3 : Hid (over (mc zeroM) 0 (mc P3) = mc P3) := Lib.hid (over_all _ _ (by rw [HS3.out, HzS.out]))
          have HCo : Hid (coC M qn rn = 0) := Lib.hid (by unfold coC; rw [if_pos h0, coX_eq hg]; unfold fC; rw [HX.out]; exact if_pos rfl)
          have HRo : Hid (coR M qn rn = P3) := Lib.hid (by unfold coR; rw [if_pos h0, coX_eq hg]; unfold fR; rw [HX.out]; exact if_pos rfl)
          clear h0 hst h1 h3 h4 hI hg1 hg2 hg3
          generalize invM M L S = I at *
          go_enter Try.func29, Try.ntmps29
          go_wp2_with (first | (with_reducible show wpList _ _ _ _ _ _; refine wpList_load_blk rfl 28 (.tmp 3) rfl w.heap.size 0 rfl (mc M) _ (by first | exact hM9 | exact hM8 | exact hM7 | exact hM6 | exact hM5 | exact hM4 | exact hM1 | exact hM0) 98 F2.out _ Try.underlying28 rfl size_mach ?_; rw [F1.out]) | (go_at_call 51; refine (HSt.out _).mono ?_; rintro e w1 ⟨rfl, hc1⟩; have hM1 := hM0.keptAll hc1; have hX1 := hX0.keptAll hc1; have hb1 := below_step hb0 hc1; have sM := (hM1.cell 1).trans (mc_S M)) | (go_at_call 42; refine (HIn.out _).mono ?_; rintro e w' ⟨rfl, rfl⟩) | (go_at_call 40; refine (HInv.out _).mono ?_; rintro e w2 ⟨rfl, hc2⟩; have hlt2 := (hX1.keptAll hc2).lt; have hM3 := (hM1.keptAll hc2).alloc (.cells (mc zeroM) 28); have hX3 := (hX1.keptAll hc2).alloc (.cells (mc zeroM) 28); have hb2 := below_step hb1 hc2; have hge2 := hb2.size; have hb3 := below_alloc' hb2 (.cells (mc zeroM) 28); have hY3 : Blk (w2.alloc (.cells (mc zeroM) 28)) w2.heap.size (mc zeroM) 28 := Blk.new _ _ _) | ((with_reducible show wpList _ _ _ _ _ _); refine wpList_store_blk rfl 28 (.tmp 9) (.tmp 34) rfl w2.heap.size 0 (mc I) rfl rfl (mc zeroM) 28 hY3 (by first | (rw [HIs.out, HzS.out]; omega) | (rw [HIs.out]; omega)) (by rw [HIs.out]; exact size_mach) (mc_one _) ?_; intro w3 hXw3 hkeep hsz hbl; clear hsz; rw [HoI.out] at hXw3; have hbw3 := hbl w.heap.size w (hge2) hb3; have hM4 := hkeep w.heap.size _ _ (by omega) hM3; have hX4 := hkeep (w.heap.size + 1) _ _ (by omega) hX3; have hI4 := hXw3; have hb4 := hbw3; clear hkeep hbl hbw3 hXw3) | (with_reducible show wpList _ _ _ _ _ _; refine wpList_load_blk rfl 28 (.tmp 9) rfl w2.heap.size 0 rfl (mc I) _ (by first | exact hI4) 98 (by rw [HIs.out]; omega) _ Try.underlying28 rfl size_mach ?_; rw [I1.out]) | (go_at_call 46; clear T0; refine (HP1.out _).mono ?_; rintro e v0 ⟨rfl, hd0⟩; have hltv0 := (hX4.keptAll hd0).lt; have hMv0 := (hM4.keptAll hd0).alloc (.cells (mc zeroM) 28); have hXv0 := (hX4.keptAll hd0).alloc (.cells (mc zeroM) 28); have hbp0 := below_step hb4 hd0; have hgv0 := hbp0.size; have hbv0 := below_alloc' hbp0 (.cells (mc zeroM) 28); have hYv0 : Blk (v0.alloc (.cells (mc zeroM) 28)) v0.heap.size (mc zeroM) 28 := Blk.new _ _ _) | ((with_reducible show wpList _ _ _ _ _ _); refine wpList_store_blk rfl 28 (.tmp 10) (.tmp 41) rfl v0.heap.size 0 (mc P1) rfl rfl (mc zeroM) 28 hYv0 (by first | (rw [HS1.out, HzS.out]; omega) | (rw [HS1.out]; omega)) (by rw [HS1.out]; exact size_mach) (mc_one _) ?_; intro u0 hXu0 hkeep hsz hbl; clear hsz; rw [HO1.out] at hXu0; have hbu0 := hbl w.heap.size w (hgv0) hbv0; have hM5 := hkeep w.heap.size _ _ (by omega) hMv0; have hX5 := hkeep (w.heap.size + 1) _ _ (by omega) hXv0; clear hkeep hbl) | (with_reducible show wpList _ _ _ _ _ _; refine wpList_load_blk rfl 28 (.tmp 10) rfl v0.heap.size 0 rfl (mc P1) _ (by first | exact hXu0) 98 (by rw [HS1.out]; omega) _ Try.underlying28 rfl size_mach ?_; rw [HU1.out]) | (go_at_call 46; clear T1; refine (HP2.out _).mono ?_; rintro e v1 ⟨rfl, hd1⟩; have hltv1 := (hX5.keptAll hd1).lt; have hMv1 := (hM5.keptAll hd1).alloc (.cells (mc zeroM) 28); have hXv1 := (hX5.keptAll hd1).alloc (.cells (mc zeroM) 28); have hbp1 := below_step hbu0 hd1; have hgv1 := hbp1.size; have hbv1 := below_alloc' hbp1 (.cells (mc zeroM) 28); have hYv1 : Blk (v1.alloc (.cells (mc zeroM) 28)) v1.heap.size (mc zeroM) 28 := Blk.new _ _ _) | ((with_reducible show wpList _ _ _ _ _ _); refine wpList_store_blk rfl 28 (.tmp 12) (.tmp 51) rfl v1.heap.size 0 (mc P2) rfl rfl (mc zeroM) 28 hYv1 (by first | (rw [HS2.out, HzS.out]; omega) | (rw [HS2.out]; omega)) (by rw [HS2.out]; exact size_mach) (mc_one _) ?_; intro u1 hXu1 hkeep hsz hbl; clear hsz; rw [HO2.out] at hXu1; have hbu1 := hbl w.heap.size w (hgv1) hbv1; have hM6 := hkeep w.heap.size _ _ (by omega) hMv1; have hX6 := hkeep (w.heap.size + 1) _ _ (by omega) hXv1; clear hkeep hbl) | (with_reducible show wpList _ _ _ _ _ _; refine wpList_load_blk rfl 28 (.tmp 12) rfl v1.heap.size 0 rfl (mc P2) _ (by first | exact hXu1) 98 (by rw [HS2.out]; omega) _ Try.underlying28 rfl size_mach ?_; rw [HU2.out]) | (go_at_call 46; clear T2; refine (HP3.out _).mono ?_; rintro e v2 ⟨rfl, hd2⟩; have hltv2 := (hX6.keptAll hd2).lt; have hMv2 := (hM6.keptAll hd2).alloc (.cells (mc zeroM) 28); have hXv2 := (hX6.keptAll hd2).alloc (.cells (mc zeroM) 28); have hbp2 := below_step hbu1 hd2; have hgv2 := hbp2.size; have hbv2 := below_alloc' hbp2 (.cells (mc zeroM) 28); have hYv2 : Blk (v2.alloc (.cells (mc zeroM) 28)) v2.heap.size (mc zeroM) 28 := Blk.new _ _ _) | ((with_reducible show wpList _ _ _ _ _ _); refine wpList_store_blk rfl 28 (.tmp 14) (.tmp 61) rfl v2.heap.size 0 (mc P3) rfl rfl (mc zeroM) 28 hYv2 (by first | (rw [HS3.out, HzS.out]; omega) | (rw [HS3.out]; omega)) (by rw [HS3.out]; exact size_mach) (mc_one _) ?_; intro u2 hXu2 hkeep hsz hbl; clear hsz; rw [HO3.out] at hXu2; have hbu2 := hbl w.heap.size w (hgv2) hbv2; have hM7 := hkeep w.heap.size _ _ (by omega) hMv2; have hX7 := hkeep (w.heap.size + 1) _ _ (by omega) hXv2; clear hkeep hbl) | (with_reducible show wpList _ _ _ _ _ _; refine wpList_load_blk rfl 28 (.tmp 14) rfl v2.heap.size 0 rfl (mc P3) _ (by first | exact hXu2) 98 (by rw [HS3.out]; omega) _ Try.underlying28 rfl size_mach ?_; rw [HU3.out]) | ((with_reducible show wpList _ _ _ _ _ _); refine wpList_store_blk rfl 28 (.tmp 6) (.tmp 66) rfl (w.heap.size + 1) 0 (mc P3) rfl rfl (mc zeroM) 28 hX7 (by first | (rw [HS3.out, HzS.out]; omega) | (rw [HS3.out]; omega)) (by rw [HS3.out]; exact size_mach) (mc_one _) ?_; intro wz hXwz hkeep hsz hbl; clear hsz; rw [HO3.out] at hXwz; have hbwz := hbl w.heap.size w (by omega) hbu2; clear hkeep hbl))
          exact bodyPost_cell1 rfl rfl hXwz Try.underlying28 rfl (by rw [HS3.out]; exact size_mach) rfl ⟨by rw [HRo.out, HCo.out]; rfl, hbwz⟩
  · have HRR : Hid (coR M q r = zeroM) := Lib.hid (by unfold coR; rw [if_neg h0])
    have HCC : Hid (coC M q r = twoC M q M r) := Lib.hid (by unfold coC; rw [if_neg h0])
    by_cases hst : stC M q = 0
    · cases h4 : inS M r
      · have HT := Lib.hid (twoC_st.2.1 hst h4)
        have h1 : isMach M = true := by
          unfold stC at hst
          by_cases h : isMach M = true
          · exact h
          · simp [h] at hst
        obtain ⟨mL2, mL3, mS1, mS16⟩ := mach_small h1
        have wM := wrap_pred ⟨mS1, mS16⟩
        have HSt := Lib.hid (fun W => l07State_calls M hok q W)
        rw [hst] at HSt
        have HIn := Lib.hid (fun W => l01In_calls r 0 (M.S - 1) W)
        rw [inS_model, h4] at HIn
        clear h0 hst h4 h1
        go_enter Try.func29, Try.ntmps29
        go_wp2_with (first | (with_reducible show wpList _ _ _ _ _ _; refine wpList_load_blk rfl 28 (.tmp 3) rfl w.heap.size 0 rfl (mc M) _ (by first | exact hM0) 98 F2.out _ Try.underlying28 rfl size_mach ?_; rw [F1.out]) | (go_at_call 51; refine (HSt.out _).mono ?_; rintro e w1 ⟨rfl, hc1⟩; have hM1 := hM0.keptAll hc1; have hX1 := hX0.keptAll hc1; have hb1 := below_step hb0 hc1; have sM := (hM1.cell 1).trans (mc_S M)) | (go_at_call 42; refine (HIn.out _).mono ?_; rintro e w' ⟨rfl, rfl⟩) | ((with_reducible show wpList _ _ _ _ _ _); refine wpList_store_blk rfl 28 (.tmp 6) (.tmp 31) rfl (w.heap.size + 1) 0 (mc zeroM) rfl rfl (mc zeroM) 28 hX1 (by first | (rw [HzS.out, HzS.out]; omega) | (rw [HzS.out]; omega)) (by rw [HzS.out]; exact size_mach) (mc_one _) ?_; intro w5 hXw5 hkeep hsz hbl; clear hsz; rw [zero_over] at hXw5; have hbw5 := hbl w.heap.size w (by omega) hb1; clear hkeep hbl))
        exact bodyPost_cell1 rfl rfl hXw5 Try.underlying28 rfl (by rw [HzS.out]; exact size_mach) rfl ⟨by rw [HRR.out, HCC.out, HT.out]; rfl, hbw5⟩
      · exact absurd (twoC_st.1 hst h4) h0
    · have HT := Lib.hid (twoC_st (r := r) |>.2.2 hst)
      have hne : (stC M q == 0) = false := by simpa using hst
      have hne2 : (stC M q != 0) = true := by simpa using hst
      clear h0 hst
      go_enter Try.func29, Try.ntmps29
      go_wp2_with (first | (with_reducible show wpList _ _ _ _ _ _; refine wpList_load_blk rfl 28 (.tmp 3) rfl w.heap.size 0 rfl (mc M) _ (by first | exact hM0) 98 F2.out _ Try.underlying28 rfl size_mach ?_; rw [F1.out]) | (go_at_call 51; refine (l07State_calls M hok q _).mono ?_; rintro e w1 ⟨rfl, hc1⟩; have hX1 := hX0.keptAll hc1; have hb1 := below_step hb0 hc1) | ((with_reducible show wpList _ _ _ _ _ _); refine wpList_store_blk rfl 28 (.tmp 6) (.tmp 31) rfl (w.heap.size + 1) 0 (mc zeroM) rfl rfl (mc zeroM) 28 hX1 (by first | (rw [HzS.out, HzS.out]; omega) | (rw [HzS.out]; omega)) (by rw [HzS.out]; exact size_mach) (mc_one _) ?_; intro w5 hXw5 hkeep hsz hbl; clear hsz; rw [zero_over] at hXw5; have hbw5 := hbl w.heap.size w (by omega) hb1; clear hkeep hbl))
      exact bodyPost_cell1 rfl rfl hXw5 Try.underlying28 rfl (by rw [HzS.out]; exact size_mach) rfl ⟨by rw [HRR.out, HCC.out, HT.out]; rfl, hbw5⟩
end Go.Proofs.Ytkkooafjpancoaa
