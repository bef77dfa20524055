/- 'DualMachine', both. -/
import Derived.Test.YtolkfoecnmjofaaDuM
namespace Go.Proofs.Ytolkfoecnmjofaa
open Go.RowKit

set_option maxRecDepth 100000 in
set_option maxHeartbeats 4000000 in
theorem iDualMachine_calls (M : Mach) (hok : M.Ok) (w : World) :
    Calls Try.prog 19 #[.agg (mc M)] w fun e w' => e = .returned (.tuple #[.agg (mc (dualR M)), .int .i64 (dualC M)]) ∧ Below w.heap.size w w' := by
  have F1 : Hid (cut (mc M) 0 98 = mc M) := Lib.hid (cut_all _ _ (mc_size hok)); have F2 : Hid (0 + 98 ≤ (mc M).size) := Lib.hid (by rw [mc_size hok]; omega)
  have hz := zero_mach
  have hB : Blk ((w.alloc (.cells (mc M) 28)).alloc (.cells (mc zeroM) 28)) w.heap.size (mc M) 28 := (Blk.new w _ _).alloc _
  have hR : Blk ((w.alloc (.cells (mc M) 28)).alloc (.cells (mc zeroM) 28)) (w.heap.size + 1) (mc zeroM) 28 := Blk.new_at _ _ _ _ (by simp)
  have hbw0 : Below w.heap.size w ((w.alloc (.cells (mc M) 28)).alloc (.cells (mc zeroM) 28)) := by (repeat (first | exact Below.refl _ _ | refine below_drew' ?_ | refine below_drewN' ?_ _ | refine below_alloc' ?_ _ | refine below_set' ?_ (by (try simp); (try omega)) _ | refine below_step ?_ (by assumption)))
  have HzS : Hid ((mc zeroM).size = 98) := Lib.hid (mc_size zeroM_ok)
  cases hm : isMach M
  · have Hc : Hid (dualC M = 1) := Lib.hid (by simp [dualC, hm])
    have Hr : Hid (dualR M = zeroM) := Lib.hid (by simp [dualR, hm])
    go_enter Try.func19, Try.ntmps19
    go_wp2_with (first | (with_reducible show wpList _ _ _ _ _ _; refine wpList_load_blk rfl 28 (.tmp 1) rfl w.heap.size 0 rfl (mc M) _ (hB) 98 F2.out _ Try.underlying28 rfl size_mach ?_; rw [F1.out]) | (go_at_call 38; refine (IsMachine_calls M hok _).mono ?_; rintro e w1 ⟨rfl, hb1⟩; rw [hm]; have hB1 := hB.keptAll hb1; have hR1 := hR.keptAll hb1; have hbw1 := below_step hbw0 hb1; have cA := hB1.cell) | (with_reducible show wpList _ _ _ _ _ _; refine wpList_store_blk rfl 28 (.tmp 2) (.tmp 10) rfl (w.heap.size + 1) 0 (mc zeroM) rfl rfl (mc zeroM) _ hR1 (by rw [HzS.out]; omega) (by rw [HzS.out]; exact size_mach) (mc_one _) ?_; intro w4 hb4 hkeep _ hbl; rw [zero_over] at hb4; have hbw4 := hbl _ _ (by omega) hbw1; clear hkeep hbl))
    exact bodyPost_cell1 rfl rfl hb4 Try.underlying28 rfl (by rw [HzS.out]; exact size_mach) rfl ⟨by rw [Hr.out, Hc.out]; rfl, hbw4⟩
  · obtain ⟨L, S, hg⟩ := Good.of hok hm
    have hL3 := hg.L3
    have hS16 := hg.S16
    have hcL := mc_L M
    have hcS := mc_S M
    rw [hg.hL] at hcL
    rw [hg.hS] at hcS
    have HS := Lib.hid hg.hS
    have HL := Lib.hid hg.hL
    cases ha : isAlpha (S : Int)
    · have Hc : Hid (dualC M = 2) := Lib.hid (by simp [dualC, hm, HS.out, ha])
      have Hr : Hid (dualR M = zeroM) := Lib.hid (by simp [dualR, hm, HS.out, ha])
      go_enter Try.func19, Try.ntmps19
      go_wp2_with (first | (with_reducible show wpList _ _ _ _ _ _; refine wpList_load_blk rfl 28 (.tmp 1) rfl w.heap.size 0 rfl (mc M) _ (hB) 98 F2.out _ Try.underlying28 rfl size_mach ?_; rw [F1.out]) | (go_at_call 38; refine (IsMachine_calls M hok _).mono ?_; rintro e w1 ⟨rfl, hb1⟩; rw [hm]; have hB1 := hB.keptAll hb1; have hR1 := hR.keptAll hb1; have hbw1 := below_step hbw0 hb1; have cA := hB1.cell) | (go_at_call 43; refine (isAlphabet_calls _ _).mono ?_; rintro e w' ⟨rfl, rfl⟩; rw [ha]) | (with_reducible show wpList _ _ _ _ _ _; refine wpList_store_blk rfl 28 (.tmp 2) (.tmp 15) rfl (w.heap.size + 1) 0 (mc zeroM) rfl rfl (mc zeroM) _ hR1 (by rw [HzS.out]; omega) (by rw [HzS.out]; exact size_mach) (mc_one _) ?_; intro w4 hb4 hkeep _ hbl; rw [zero_over] at hb4; have hbw4 := hbl _ _ (by omega) hbw1; clear hkeep hbl))
      exact bodyPost_cell1 rfl rfl hb4 Try.underlying28 rfl (by rw [HzS.out]; exact size_mach) rfl ⟨by rw [Hr.out, Hc.out]; rfl, hbw4⟩
    · have hS23 := (isAlpha_iff _).1 ha
      have hS3 : S ≤ 3 := by omega
      have hS2 : 2 ≤ S := by omega
      clear hS23
      cases hr : revB M L S
      · have Hc : Hid (dualC M = 5) := Lib.hid (by simp [dualC, hm, HS.out, HL.out, ha, hr])
        have Hr : Hid (dualR M = zeroM) := Lib.hid (by simp [dualR, hm, HS.out, HL.out, ha, hr])
        go_enter Try.func19, Try.ntmps19
        go_wp2_with (first | (with_reducible show wpList _ _ _ _ _ _; refine wpList_load_blk rfl 28 (.tmp 1) rfl w.heap.size 0 rfl (mc M) _ (by first | exact hB1 | exact hB) 98 F2.out _ Try.underlying28 rfl size_mach ?_; rw [F1.out]) | (go_at_call 38; refine (IsMachine_calls M hok _).mono ?_; rintro e w1 ⟨rfl, hb1⟩; rw [hm]; have hB1 := hB.keptAll hb1; have hR1 := hR.keptAll hb1; have hbw1 := below_step hbw0 hb1; have cA := hB1.cell) | (go_at_call 43; refine (isAlphabet_calls _ _).mono ?_; rintro e w' ⟨rfl, rfl⟩; rw [ha]) | (go_at_call 39; refine (leadsStatesApart_calls M L S hg _).mono ?_; rintro e w2 ⟨rfl, hb2⟩; rw [hr]; have hB2 := hB1.keptAll hb2; have hR2 := hR1.keptAll hb2; have hbw2 := below_step hbw1 hb2; clear cA; have cA := hB2.cell) | (with_reducible show wpList _ _ _ _ _ _; refine wpList_store_blk rfl 28 (.tmp 2) (.tmp 19) rfl (w.heap.size + 1) 0 (mc zeroM) rfl rfl (mc zeroM) _ hR2 (by rw [HzS.out]; omega) (by rw [HzS.out]; exact size_mach) (mc_one _) ?_; intro w4 hb4 hkeep _ hbl; rw [zero_over] at hb4; have hbw4 := hbl _ _ (by omega) hbw2; clear hkeep hbl))
        exact bodyPost_cell1 rfl rfl hb4 Try.underlying28 rfl (by rw [HzS.out]; exact size_mach) rfl ⟨by rw [Hr.out, Hc.out]; rfl, hbw4⟩
      · have Hc : Hid (dualC M = 0) := Lib.hid (by simp [dualC, hm, HS.out, HL.out, ha, hr])
        have Hr : Hid (dualR M = duM M L S) := Lib.hid (by simp [dualR, hm, HS.out, HL.out, ha, hr])
        obtain ⟨Z0, hZ0⟩ : ∃ Z0 : Mach, Z0 = blankM S L := ⟨_, rfl⟩
        have hset : ((mc zeroM).setIfInBounds 0 (.int .i64 S)).setIfInBounds 1 (.int .i64 L) = mc Z0 := by rw [zero_set, hZ0]; rfl
        have hZok : Z0.Ok := by rw [hZ0]; exact blankN_ok S L (by omega) (by omega)
        have HZ := Lib.hid hZ0; clear hZ0
        have G1 : Hid (0 + (mc Z0).size ≤ (mc zeroM).size) := Lib.hid (by rw [HzS.out, mc_size hZok]; omega)
        have G2 : Hid ((Try.prog.info? 28).map (·.size) = some (mc Z0).size) := Lib.hid (by rw [mc_size hZok]; exact size_mach)
        have G4 : Hid (over (mc zeroM) 0 (mc Z0) = mc Z0) := Lib.hid (over_all _ _ (by rw [HzS.out, mc_size hZok]))
        have Hg := Lib.hid hg
        go_enter Try.func19, Try.ntmps19
        go_wp2_with (first | (with_reducible show wpList _ _ _ _ _ _; refine wpList_load_blk rfl 28 (.tmp 1) rfl w.heap.size 0 rfl (mc M) _ (by first | exact hB1 | exact hB) 98 F2.out _ Try.underlying28 rfl size_mach ?_; rw [F1.out]) | (go_at_call 38; refine (IsMachine_calls M hok _).mono ?_; rintro e w1 ⟨rfl, hb1⟩; rw [hm]; have hB1 := hB.keptAll hb1; have hR1 := hR.keptAll hb1; have hbw1 := below_step hbw0 hb1; have cA := hB1.cell) | (go_at_call 43; refine (isAlphabet_calls _ _).mono ?_; rintro e w' ⟨rfl, rfl⟩; rw [ha]) | (go_at_call 39; refine (leadsStatesApart_calls M L S hg _).mono ?_; rintro e w2 ⟨rfl, hb2⟩; rw [hr]; have hB2 := hB1.keptAll hb2; have hR2 := hR1.keptAll hb2; have hbw2 := below_step hbw1 hb2; clear cA; have cA := hB2.cell; have hB2' := hB2.alloc (.cells (mc zeroM) 28); have hR2' := hR2.alloc (.cells (mc zeroM) 28); have hC : Blk (w2.alloc (.cells (mc zeroM) 28)) w2.heap.size (mc zeroM) 28 := Blk.new w2 _ _; have hbw2' := below_alloc' hbw2 (.cells (mc zeroM) 28); have hlt2 := hR2.lt) | (with_reducible show wpList _ _ _ _ _ _; refine wpList_store_blk rfl 28 (.tmp 4) (.tmp 24) rfl w2.heap.size 0 (mc Z0) rfl rfl (mc zeroM) 28 hC G1.out G2.out (mc_one _) ?_; intro w3 hb3 hkeep _ hbl; rw [G4.out] at hb3; have hbw3 := hbl _ _ (by omega) hbw2'; have hB3 := hkeep _ _ _ (by omega) hB2'; have hR3 := hkeep _ _ _ (by omega) hR2'; have cA3 := hB3.cell; clear hkeep hbl cA))
        generalize w2.heap.size = g at *
        clear G1 G2 G4 hset
        go_loopw [27] (fun i wr => ∃ q : Nat, q ≤ S ∧ i = .int .i64 q ∧ Blk wr w.heap.size (mc M) 28 ∧ Blk wr (w.heap.size + 1) (mc zeroM) 28 ∧ Blk wr g (mc (duAll M L Z0 q)) 28 ∧ Below w.heap.size w wr) (fun i _ => S - (intOf i).toNat)
        case atStart => exact ⟨0, by omega, rfl, hB3, hR3, hb3, hbw3⟩
        case round =>
          clear hB3 hR3 hb3 hbw3 cA3
          obtain ⟨q, hq, rfl, hb1, hb2, hb3, hbw⟩ := hrel
          have cA := hb1.cell
          by_cases hlt : q < S
          · have hAok := duAll_ok hok hZok L q
            go_wp2
            go_loopw [32] (fun i wr => ∃ x : Nat, x ≤ L ∧ i = .int .i64 x ∧ Blk wr w.heap.size (mc M) 28 ∧ Blk wr (w.heap.size + 1) (mc zeroM) 28 ∧ Blk wr g (mc (duRow M q (duAll M L Z0 q) x)) 28 ∧ Below w.heap.size w wr) (fun i _ => L - (intOf i).toNat)
            case atStart => exact ⟨0, by omega, rfl, hb1, hb2, hb3, hbw⟩
            case round =>
              clear hb1 hb2 hb3 hbw cA
              obtain ⟨x, hk, rfl, hb1, hb2, hb3, hbw⟩ := hrel
              have cA := hb1.cell
              by_cases hlk : x < L
              · have hq3 : q < 3 := by omega
                have hx3 : x < 3 := by omega
                have hq16 : (q : Int) < 16 := by omega
                have hqi : (q : Int) < 3 := by omega
                have hxi : (x : Int) < 3 := by omega
                have hx16 : (x : Int) < 16 := by omega
                have hn := mc_n hok q x (by omega) hx3
                have ho := mc_o hok q x (by omega) hx3
                have hRok := duRow_ok hok hAok q x
                have Hst := Lib.hid (duStep_mc (M := M) hRok q x (by omega))
                have Hstep : Hid (duRow M q (duAll M L Z0 q) (x + 1) = duStep M q x (duRow M q (duAll M L Z0 q) x)) := Lib.hid rfl
                have HRs := Lib.hid (mc_size hRok)
                generalize M.n q x = nv at *
                generalize M.o q x = ov at *
                generalize duRow M q (duAll M L Z0 q) x = R at *
                have ho1 : (mc R)[50 + x * 3 + q]? = some ((mc R)[50 + x * 3 + q]'(by rw [HRs.out]; omega)) := Array.getElem?_eq_getElem _
                generalize (mc R)[50 + x * 3 + q]'(by rw [HRs.out]; omega) = old1 at ho1
                have hS2 : ((mc R).setIfInBounds (50 + x * 3 + q) (.int .u8 nv))[2 + x * 3 + q]? = some (((mc R).setIfInBounds (50 + x * 3 + q) (.int .u8 nv))[2 + x * 3 + q]'(by rw [Array.size_setIfInBounds, HRs.out]; omega)) := Array.getElem?_eq_getElem _
                generalize ((mc R).setIfInBounds (50 + x * 3 + q) (.int .u8 nv))[2 + x * 3 + q]'(by rw [Array.size_setIfInBounds, HRs.out]; omega) = old2 at hS2
                go_wp2
                have hx1 := hb1.drew; have hx2 := hb2.drew; have hx3b := hb3.drew; have hxw := below_drew' hbw
                clear hb1 hb2 hb3 hbw cA
                refine wp_region_still_tail 11 (by kernel_rfl) (by kernel_rfl) ?_
                simp only [List.take_succ_cons, List.take_zero, List.drop_succ_cons, List.drop_zero]
                change wpStill _ _ (World.drew _) (fun a' => wpList _ _ _ _ a' (World.drew _)) _ _
                generalize (World.drew _) = wd1 at *
                have cA := hx1.cell
                have cC := hx3b.cell
                have fC := hx3b.free
                have hc3 := hx3b.set (50 + x * 3 + q) (.int .u8 nv)
                have hc1 := hx1.setOther g (50 + x * 3 + q) (.int .u8 nv) (by omega)
                have hc2 := hx2.setOther g (50 + x * 3 + q) (.int .u8 nv) (by omega)
                have hcw := below_set' (o := 50 + x * 3 + q) hxw (b := g) (by omega) (.int .u8 nv)
                repeat still_step
                refine wpStill_nil ?_
                go_wp2
                clear cC fC hx1 hx2 hx3b hxw
                have hx1 := hc1.drew; have hx2 := hc2.drew; have hx3b := hc3.drew; have hxw := below_drew' hcw
                clear hc1 hc2 hc3 hcw cA
                refine wp_region_still_tail 11 (by kernel_rfl) (by kernel_rfl) ?_
                simp only [List.take_succ_cons, List.take_zero, List.drop_succ_cons, List.drop_zero]
                change wpStill _ _ (World.drew _) (fun a' => wpList _ _ _ _ a' (World.drew _)) _ _
                generalize (World.drew _) = wd2 at *
                have cA := hx1.cell
                have cC := hx3b.cell
                have fC := hx3b.free
                have hd3 := hx3b.set (2 + x * 3 + q) (.int .u8 ov)
                have hd1 := hx1.setOther g (2 + x * 3 + q) (.int .u8 ov) (by omega)
                have hd2 := hx2.setOther g (2 + x * 3 + q) (.int .u8 ov) (by omega)
                have hdw := below_set' (o := 2 + x * 3 + q) hxw (b := g) (by omega) (.int .u8 ov)
                rw [← Hst.out] at hd3
                repeat still_step
                refine wpStill_nil ?_
                go_wp2
                go_roundw
                case rel => exact ⟨x + 1, by omega, by go_num, hd1, hd2, by rw [Hstep.out]; exact hd3, hdw⟩
                case measure => simp [intOf] <;> omega
              · obtain rfl : x = L := by omega
                go_wp2
                go_roundw
                case rel => exact ⟨q + 1, by omega, by go_num, hb1, hb2, hb3, hbw⟩
                case measure => simp [intOf] <;> omega
          · obtain rfl : S = q := by omega
            have hAok := duAll_ok hok hZok L S
            have HAs := Lib.hid (mc_size hAok)
            have F1 : Hid (cut (mc (duAll M L Z0 S)) 0 98 = mc (duAll M L Z0 S)) := Lib.hid (cut_all _ _ HAs.out)
            have F2 : Hid (over (mc zeroM) 0 (mc (duAll M L Z0 S)) = mc (duAll M L Z0 S)) := Lib.hid (over_all _ _ (by rw [HAs.out, HzS.out]))
            have Hres : Hid (duAll M L Z0 S = duM M L S) := Lib.hid (by rw [HZ.out]; exact rfl)
            go_wp2_with (first | (with_reducible show wpList _ _ _ _ _ _; refine wpList_load_blk rfl 28 (.tmp 4) rfl g 0 rfl _ _ hb3 98 (by rw [HAs.out]; omega) _ Try.underlying28 rfl size_mach ?_; rw [F1.out]) | (with_reducible show wpList _ _ _ _ _ _; refine wpList_store_blk rfl 28 (.tmp 2) (.tmp 59) rfl (w.heap.size + 1) 0 (mc (duAll M L Z0 S)) rfl rfl (mc zeroM) _ hb2 (by rw [HAs.out, HzS.out]; omega) (by rw [HAs.out]; exact size_mach) (mc_one _) ?_; intro w4 hb4 hkeep _ hbl; rw [F2.out] at hb4; have hbw4 := hbl _ _ (by omega) hbw; clear hkeep hbl))
            exact bodyPost_cell1 rfl rfl hb4 Try.underlying28 rfl (by rw [HAs.out]; exact size_mach) rfl ⟨by rw [Hr.out, Hc.out, ← Hres.out]; rfl, hbw4⟩

set_option maxRecDepth 100000 in
set_option maxHeartbeats 4000000 in
theorem sDualMachine_calls (M : Mach) (hok : M.Ok) (w : World) :
    Calls Try.prog 18 #[.agg (mc M)] w fun e w' => e = .returned (.tuple #[.agg (mc (dualR M)), .int .i64 (dualC M)]) ∧ Below w.heap.size w w' := by
  have F1 : Hid (cut (mc M) 0 98 = mc M) := Lib.hid (cut_all _ _ (mc_size hok)); have F2 : Hid (0 + 98 ≤ (mc M).size) := Lib.hid (by rw [mc_size hok]; omega)
  have hz := zero_mach
  have hB : Blk ((w.alloc (.cells (mc M) 28)).alloc (.cells (mc zeroM) 28)) w.heap.size (mc M) 28 := (Blk.new w _ _).alloc _
  have hR : Blk ((w.alloc (.cells (mc M) 28)).alloc (.cells (mc zeroM) 28)) (w.heap.size + 1) (mc zeroM) 28 := Blk.new_at _ _ _ _ (by simp)
  have hbw0 : Below w.heap.size w ((w.alloc (.cells (mc M) 28)).alloc (.cells (mc zeroM) 28)) := by (repeat (first | exact Below.refl _ _ | refine below_drew' ?_ | refine below_drewN' ?_ _ | refine below_alloc' ?_ _ | refine below_set' ?_ (by (try simp); (try omega)) _ | refine below_step ?_ (by assumption)))
  have HzS : Hid ((mc zeroM).size = 98) := Lib.hid (mc_size zeroM_ok)
  cases hm : isMach M
  · have Hc : Hid (dualC M = 1) := Lib.hid (by simp [dualC, hm])
    have Hr : Hid (dualR M = zeroM) := Lib.hid (by simp [dualR, hm])
    go_enter Try.func18, Try.ntmps18
    go_wp2_with (first | (with_reducible show wpList _ _ _ _ _ _; refine wpList_load_blk rfl 28 (.tmp 1) rfl w.heap.size 0 rfl (mc M) _ (hB) 98 F2.out _ Try.underlying28 rfl size_mach ?_; rw [F1.out]) | (go_at_call 35; refine (l01Is_calls M hok _).mono ?_; rintro e w1 ⟨rfl, hb1⟩; rw [hm]; have hB1 := hB.keptAll hb1; have hR1 := hR.keptAll hb1; have hbw1 := below_step hbw0 hb1; have cA := hB1.cell) | (with_reducible show wpList _ _ _ _ _ _; refine wpList_store_blk rfl 28 (.tmp 2) (.tmp 11) rfl (w.heap.size + 1) 0 (mc zeroM) rfl rfl (mc zeroM) _ hR1 (by rw [HzS.out]; omega) (by rw [HzS.out]; exact size_mach) (mc_one _) ?_; intro w4 hb4 hkeep _ hbl; rw [zero_over] at hb4; have hbw4 := hbl _ _ (by omega) hbw1; clear hkeep hbl))
    exact bodyPost_cell1 rfl rfl hb4 Try.underlying28 rfl (by rw [HzS.out]; exact size_mach) rfl ⟨by rw [Hr.out, Hc.out]; rfl, hbw4⟩
  · obtain ⟨L, S, hg⟩ := Good.of hok hm
    have hL3 := hg.L3
    have hS16 := hg.S16
    have hcL := mc_L M
    have hcS := mc_S M
    rw [hg.hL] at hcL
    rw [hg.hS] at hcS
    have HS := Lib.hid hg.hS
    have HL := Lib.hid hg.hL
    cases ha : isAlpha (S : Int)
    · have Hc : Hid (dualC M = 2) := Lib.hid (by simp [dualC, hm, HS.out, ha])
      have Hr : Hid (dualR M = zeroM) := Lib.hid (by simp [dualR, hm, HS.out, ha])
      have hal : decide ((2 : Int) ≤ (S : Int) ∧ (S : Int) ≤ 3) = false := by
        have := (isAlpha_no _).1 ha
        simp; omega
      go_enter Try.func18, Try.ntmps18
      go_wp2_with (first | (with_reducible show wpList _ _ _ _ _ _; refine wpList_load_blk rfl 28 (.tmp 1) rfl w.heap.size 0 rfl (mc M) _ (hB) 98 F2.out _ Try.underlying28 rfl size_mach ?_; rw [F1.out]) | (go_at_call 35; refine (l01Is_calls M hok _).mono ?_; rintro e w1 ⟨rfl, hb1⟩; rw [hm]; have hB1 := hB.keptAll hb1; have hR1 := hR.keptAll hb1; have hbw1 := below_step hbw0 hb1; have cA := hB1.cell) | (go_at_call 42; refine (l01In_calls _ _ _ _).mono ?_; rintro e w' ⟨rfl, rfl⟩; rw [hal]) | (with_reducible show wpList _ _ _ _ _ _; refine wpList_store_blk rfl 28 (.tmp 2) (.tmp 17) rfl (w.heap.size + 1) 0 (mc zeroM) rfl rfl (mc zeroM) _ hR1 (by rw [HzS.out]; omega) (by rw [HzS.out]; exact size_mach) (mc_one _) ?_; intro w4 hb4 hkeep _ hbl; rw [zero_over] at hb4; have hbw4 := hbl _ _ (by omega) hbw1; clear hkeep hbl))
      exact bodyPost_cell1 rfl rfl hb4 Try.underlying28 rfl (by rw [HzS.out]; exact size_mach) rfl ⟨by rw [Hr.out, Hc.out]; rfl, hbw4⟩
    · have hS23 := (isAlpha_iff _).1 ha
      have hS3 : S ≤ 3 := by omega
      have hS2 : 2 ≤ S := by omega
      have hal : decide ((2 : Int) ≤ (S : Int) ∧ (S : Int) ≤ 3) = true := by simp; omega
      clear hS23
      cases hr : revB M L S
      · have Hc : Hid (dualC M = 5) := Lib.hid (by simp [dualC, hm, HS.out, HL.out, ha, hr])
        have Hr : Hid (dualR M = zeroM) := Lib.hid (by simp [dualR, hm, HS.out, HL.out, ha, hr])
        go_enter Try.func18, Try.ntmps18
        go_wp2_with (first | (with_reducible show wpList _ _ _ _ _ _; refine wpList_load_blk rfl 28 (.tmp 1) rfl w.heap.size 0 rfl (mc M) _ (by first | exact hB1 | exact hB) 98 F2.out _ Try.underlying28 rfl size_mach ?_; rw [F1.out]) | (go_at_call 35; refine (l01Is_calls M hok _).mono ?_; rintro e w1 ⟨rfl, hb1⟩; rw [hm]; have hB1 := hB.keptAll hb1; have hR1 := hR.keptAll hb1; have hbw1 := below_step hbw0 hb1; have cA := hB1.cell) | (go_at_call 42; refine (l01In_calls _ _ _ _).mono ?_; rintro e w' ⟨rfl, rfl⟩; rw [hal]) | (go_at_call 36; refine (l07Reversible_calls M L S hg _).mono ?_; rintro e w2 ⟨rfl, hb2⟩; rw [hr]; have hB2 := hB1.keptAll hb2; have hR2 := hR1.keptAll hb2; have hbw2 := below_step hbw1 hb2; clear cA; have cA := hB2.cell) | (with_reducible show wpList _ _ _ _ _ _; refine wpList_store_blk rfl 28 (.tmp 2) (.tmp 22) rfl (w.heap.size + 1) 0 (mc zeroM) rfl rfl (mc zeroM) _ hR2 (by rw [HzS.out]; omega) (by rw [HzS.out]; exact size_mach) (mc_one _) ?_; intro w4 hb4 hkeep _ hbl; rw [zero_over] at hb4; have hbw4 := hbl _ _ (by omega) hbw2; clear hkeep hbl))
        exact bodyPost_cell1 rfl rfl hb4 Try.underlying28 rfl (by rw [HzS.out]; exact size_mach) rfl ⟨by rw [Hr.out, Hc.out]; rfl, hbw4⟩
      · have Hc : Hid (dualC M = 0) := Lib.hid (by simp [dualC, hm, HS.out, HL.out, ha, hr])
        have Hr : Hid (dualR M = duM M L S) := Lib.hid (by simp [dualR, hm, HS.out, HL.out, ha, hr])
        obtain ⟨Z0, hZ0⟩ : ∃ Z0 : Mach, Z0 = blankM S L := ⟨_, rfl⟩
        have hset : ((mc zeroM).setIfInBounds 0 (.int .i64 S)).setIfInBounds 1 (.int .i64 L) = mc Z0 := by rw [zero_set, hZ0]; rfl
        have hZok : Z0.Ok := by rw [hZ0]; exact blankN_ok S L (by omega) (by omega)
        have HZ := Lib.hid hZ0; clear hZ0
        have G1 : Hid (0 + (mc Z0).size ≤ (mc zeroM).size) := Lib.hid (by rw [HzS.out, mc_size hZok]; omega)
        have G2 : Hid ((Try.prog.info? 28).map (·.size) = some (mc Z0).size) := Lib.hid (by rw [mc_size hZok]; exact size_mach)
        have G4 : Hid (over (mc zeroM) 0 (mc Z0) = mc Z0) := Lib.hid (over_all _ _ (by rw [HzS.out, mc_size hZok]))
        have Hg := Lib.hid hg
        go_enter Try.func18, Try.ntmps18
        go_wp2_with (first | (with_reducible show wpList _ _ _ _ _ _; refine wpList_load_blk rfl 28 (.tmp 1) rfl w.heap.size 0 rfl (mc M) _ (by first | exact hB1 | exact hB) 98 F2.out _ Try.underlying28 rfl size_mach ?_; rw [F1.out]) | (go_at_call 35; refine (l01Is_calls M hok _).mono ?_; rintro e w1 ⟨rfl, hb1⟩; rw [hm]; have hB1 := hB.keptAll hb1; have hR1 := hR.keptAll hb1; have hbw1 := below_step hbw0 hb1; have cA := hB1.cell) | (go_at_call 42; refine (l01In_calls _ _ _ _).mono ?_; rintro e w' ⟨rfl, rfl⟩; rw [hal]) | (go_at_call 36; refine (l07Reversible_calls M L S hg _).mono ?_; rintro e w2 ⟨rfl, hb2⟩; rw [hr]; have hB2 := hB1.keptAll hb2; have hR2 := hR1.keptAll hb2; have hbw2 := below_step hbw1 hb2; clear cA; have cA := hB2.cell; have hB2' := hB2.alloc (.cells (mc zeroM) 28); have hR2' := hR2.alloc (.cells (mc zeroM) 28); have hC : Blk (w2.alloc (.cells (mc zeroM) 28)) w2.heap.size (mc zeroM) 28 := Blk.new w2 _ _; have hbw2' := below_alloc' hbw2 (.cells (mc zeroM) 28); have hlt2 := hR2.lt) | (with_reducible show wpList _ _ _ _ _ _; refine wpList_store_blk rfl 28 (.tmp 4) (.tmp 27) rfl w2.heap.size 0 (mc Z0) rfl rfl (mc zeroM) 28 hC G1.out G2.out (mc_one _) ?_; intro w3 hb3 hkeep _ hbl; rw [G4.out] at hb3; have hbw3 := hbl _ _ (by omega) hbw2'; have hB3 := hkeep _ _ _ (by omega) hB2'; have hR3 := hkeep _ _ _ (by omega) hR2'; have cA3 := hB3.cell; clear hkeep hbl cA))
        generalize w2.heap.size = g at *
        clear G1 G2 G4 hset
        go_loopw [5] (fun i wr => ∃ x : Nat, x ≤ L ∧ i = .int .i64 x ∧ Blk wr w.heap.size (mc M) 28 ∧ Blk wr (w.heap.size + 1) (mc zeroM) 28 ∧ Blk wr g (mc (duEvery M S Z0 x)) 28 ∧ Below w.heap.size w wr) (fun i _ => L - (intOf i).toNat)
        case atStart => exact ⟨0, by omega, rfl, hB3, hR3, hb3, hbw3⟩
        case round =>
          clear hB3 hR3 hb3 hbw3 cA3
          obtain ⟨x, hq, rfl, hb1, hb2, hb3, hbw⟩ := hrel
          have cA := hb1.cell
          by_cases hlt : x < L
          · have hAok := duEvery_ok hok hZok S x
            go_wp2
            go_loopw [6] (fun i wr => ∃ q : Nat, q ≤ S ∧ i = .int .i64 q ∧ Blk wr w.heap.size (mc M) 28 ∧ Blk wr (w.heap.size + 1) (mc zeroM) 28 ∧ Blk wr g (mc (duCol M x (duEvery M S Z0 x) q)) 28 ∧ Below w.heap.size w wr) (fun i _ => S - (intOf i).toNat)
            case atStart => exact ⟨0, by omega, rfl, hb1, hb2, hb3, hbw⟩
            case round =>
              clear hb1 hb2 hb3 hbw cA
              obtain ⟨q, hk, rfl, hb1, hb2, hb3, hbw⟩ := hrel
              have cA := hb1.cell
              by_cases hlk : q < S
              · have hq3 : q < 3 := by omega
                have hx3 : x < 3 := by omega
                have hq16 : (q : Int) < 16 := by omega
                have hqi : (q : Int) < 3 := by omega
                have hxi : (x : Int) < 3 := by omega
                have hx16 : (x : Int) < 16 := by omega
                have hn := mc_n hok q x (by omega) hx3
                have ho := mc_o hok q x (by omega) hx3
                have hRok := duCol_ok hok hAok x q
                have Hst := Lib.hid (duStep_mc (M := M) hRok q x (by omega))
                have Hstep : Hid (duCol M x (duEvery M S Z0 x) (q + 1) = duStep M q x (duCol M x (duEvery M S Z0 x) q)) := Lib.hid rfl
                have HRs := Lib.hid (mc_size hRok)
                generalize M.n q x = nv at *
                generalize M.o q x = ov at *
                generalize duCol M x (duEvery M S Z0 x) q = R at *
                have ho1 : (mc R)[50 + x * 3 + q]? = some ((mc R)[50 + x * 3 + q]'(by rw [HRs.out]; omega)) := Array.getElem?_eq_getElem _
                generalize (mc R)[50 + x * 3 + q]'(by rw [HRs.out]; omega) = old1 at ho1
                have hS2 : ((mc R).setIfInBounds (50 + x * 3 + q) (.int .u8 nv))[2 + x * 3 + q]? = some (((mc R).setIfInBounds (50 + x * 3 + q) (.int .u8 nv))[2 + x * 3 + q]'(by rw [Array.size_setIfInBounds, HRs.out]; omega)) := Array.getElem?_eq_getElem _
                generalize ((mc R).setIfInBounds (50 + x * 3 + q) (.int .u8 nv))[2 + x * 3 + q]'(by rw [Array.size_setIfInBounds, HRs.out]; omega) = old2 at hS2
                go_wp2
                have hx1 := hb1.drew; have hx2 := hb2.drew; have hx3b := hb3.drew; have hxw := below_drew' hbw
                clear hb1 hb2 hb3 hbw cA
                refine wp_region_still_tail 11 (by kernel_rfl) (by kernel_rfl) ?_
                simp only [List.take_succ_cons, List.take_zero, List.drop_succ_cons, List.drop_zero]
                change wpStill _ _ (World.drew _) (fun a' => wpList _ _ _ _ a' (World.drew _)) _ _
                generalize (World.drew _) = wd1 at *
                have cA := hx1.cell
                have cC := hx3b.cell
                have fC := hx3b.free
                have hc3 := hx3b.set (50 + x * 3 + q) (.int .u8 nv)
                have hc1 := hx1.setOther g (50 + x * 3 + q) (.int .u8 nv) (by omega)
                have hc2 := hx2.setOther g (50 + x * 3 + q) (.int .u8 nv) (by omega)
                have hcw := below_set' (o := 50 + x * 3 + q) hxw (b := g) (by omega) (.int .u8 nv)
                repeat still_step
                refine wpStill_nil ?_
                go_wp2
                clear cC fC hx1 hx2 hx3b hxw
                have hx1 := hc1.drew; have hx2 := hc2.drew; have hx3b := hc3.drew; have hxw := below_drew' hcw
                clear hc1 hc2 hc3 hcw cA
                refine wp_region_still_tail 11 (by kernel_rfl) (by kernel_rfl) ?_
                simp only [List.take_succ_cons, List.take_zero, List.drop_succ_cons, List.drop_zero]
                change wpStill _ _ (World.drew _) (fun a' => wpList _ _ _ _ a' (World.drew _)) _ _
                generalize (World.drew _) = wd2 at *
                have cA := hx1.cell
                have cC := hx3b.cell
                have fC := hx3b.free
                have hd3 := hx3b.set (2 + x * 3 + q) (.int .u8 ov)
                have hd1 := hx1.setOther g (2 + x * 3 + q) (.int .u8 ov) (by omega)
                have hd2 := hx2.setOther g (2 + x * 3 + q) (.int .u8 ov) (by omega)
                have hdw := below_set' (o := 2 + x * 3 + q) hxw (b := g) (by omega) (.int .u8 ov)
                rw [← Hst.out] at hd3
                repeat still_step
                refine wpStill_nil ?_
                go_wp2
                go_roundw
                case rel => exact ⟨q + 1, by omega, by go_num, hd1, hd2, by rw [Hstep.out]; exact hd3, hdw⟩
                case measure => simp [intOf] <;> omega
              · obtain rfl : q = S := by omega
                go_wp2
                go_roundw
                case rel => exact ⟨x + 1, by omega, by go_num, hb1, hb2, hb3, hbw⟩
                case measure => simp [intOf] <;> omega
          · obtain rfl : L = x := by omega
            have hAok := duEvery_ok hok hZok S L
            have HAs := Lib.hid (mc_size hAok)
            have F1 : Hid (cut (mc (duEvery M S Z0 L)) 0 98 = mc (duEvery M S Z0 L)) := Lib.hid (cut_all _ _ HAs.out)
            have F2 : Hid (over (mc zeroM) 0 (mc (duEvery M S Z0 L)) = mc (duEvery M S Z0 L)) := Lib.hid (over_all _ _ (by rw [HAs.out, HzS.out]))
            have Hres : Hid (duEvery M S Z0 L = duM M L S) := Lib.hid (by rw [HZ.out]; exact du_same hok L S hL3 hS3)
            go_wp2_with (first | (with_reducible show wpList _ _ _ _ _ _; refine wpList_load_blk rfl 28 (.tmp 4) rfl g 0 rfl _ _ hb3 98 (by rw [HAs.out]; omega) _ Try.underlying28 rfl size_mach ?_; rw [F1.out]) | (with_reducible show wpList _ _ _ _ _ _; refine wpList_store_blk rfl 28 (.tmp 2) (.tmp 62) rfl (w.heap.size + 1) 0 (mc (duEvery M S Z0 L)) rfl rfl (mc zeroM) _ hb2 (by rw [HAs.out, HzS.out]; omega) (by rw [HAs.out]; exact size_mach) (mc_one _) ?_; intro w4 hb4 hkeep _ hbl; rw [F2.out] at hb4; have hbw4 := hbl _ _ (by omega) hbw; clear hkeep hbl))
            exact bodyPost_cell1 rfl rfl hb4 Try.underlying28 rfl (by rw [HAs.out]; exact size_mach) rfl ⟨by rw [Hr.out, Hc.out, ← Hres.out]; rfl, hbw4⟩

end Go.Proofs.Ytolkfoecnmjofaa
