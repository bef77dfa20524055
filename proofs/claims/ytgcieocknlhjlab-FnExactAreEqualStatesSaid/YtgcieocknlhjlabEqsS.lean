/- 'AreEqualStates': the model. -/
import Derived.Test.YtgcieocknlhjlabEqsG
namespace Go.Proofs.Ytgcieocknlhjlab
open Go.RowKit

theorem l01In_st (n : Int) (S : Nat) (r : Bool) (h : decide (0 ≤ n ∧ n ≤ (S : Int) - 1) = r) (w : World) :
    Calls Try.prog 28 #[.int .i64 n, .int .i64 0, .int .i64 ((S : Int) - 1)] w fun e w' => e = .returned (.bool r) ∧ w = w' :=
  (l01In_calls n 0 ((S : Int) - 1) w).mono fun e w' h' => ⟨by rw [h'.1, h], h'.2⟩

set_option maxRecDepth 100000 in
set_option maxHeartbeats 2000000 in
theorem sAreEqualStates_calls (M : Mach) (hok : M.Ok) (q r : Int) (w : World) :
    Calls Try.prog 11 #[.agg (mc M), .int .i64 q, .int .i64 r] w fun e w' => e = .returned (.tuple #[.bool (eqsR M q r), .int .i64 (eqsC M q r)]) ∧ Below w.heap.size w w' := by
  have hcS := mc_S M
  have F1 : Hid (cut (mc M) 0 98 = mc M) := Lib.hid (cut_all _ _ (mc_size hok)); have F2 : Hid (0 + 98 ≤ (mc M).size) := Lib.hid (by rw [mc_size hok]; omega)
  have hB : Blk (w.alloc (.cells (mc M) 28)) w.heap.size (mc M) 28 := Blk.new w _ _
  have hbw0 : Below w.heap.size w (w.alloc (.cells (mc M) 28)) := by (repeat (first | exact Below.refl _ _ | refine below_drew' ?_ | refine below_drewN' ?_ _ | refine below_alloc' ?_ _ | refine below_set' ?_ (by (try simp); (try omega)) _ | refine below_step ?_ (by assumption)))
  cases hm : isMach M
  · have Hr : Hid (eqsR M q r = false) := Lib.hid (by simp [eqsR, hm])
    have Hc : Hid (eqsC M q r = 1) := Lib.hid (by simp [eqsC, hm])
    go_enter Try.func11, Try.ntmps11
    go_wp2_with (first | (with_reducible show wpList _ _ _ _ _ _; refine wpList_load_blk rfl 28 (.tmp 3) rfl w.heap.size 0 rfl (mc M) _ (hB) 98 F2.out _ Try.underlying28 rfl size_mach ?_; rw [F1.out]) | (go_at_call 24; refine (l01Is_calls M hok _).mono ?_; rintro e w1 ⟨rfl, hb1⟩; rw [hm]))
    go_ret2
    exact ⟨ret_oi Hr.out.symm Hc.out.symm, by (repeat (first | exact Below.refl _ _ | refine below_drew' ?_ | refine below_drewN' ?_ _ | refine below_alloc' ?_ _ | refine below_set' ?_ (by (try simp); (try omega)) _ | refine below_step ?_ (by assumption)))⟩
  · obtain ⟨L, S, hg⟩ := Good.of hok hm
    have hS16 := hg.S16
    have hS1 := hg.S1
    have hMS := hg.hS
    rw [hMS] at hcS
    by_cases hq : 0 ≤ q ∧ q ≤ (S : Int) - 1
    · have hqd : decide (0 ≤ q ∧ q ≤ (S : Int) - 1) = true := by simpa using hq
      have hqd' : decide (0 ≤ q ∧ q < M.S) = true := by rw [hMS]; simp; omega
      by_cases hr : 0 ≤ r ∧ r ≤ (S : Int) - 1
      · have hrd : decide (0 ≤ r ∧ r ≤ (S : Int) - 1) = true := by simpa using hr
        have hrd' : decide (0 ≤ r ∧ r < M.S) = true := by rw [hMS]; simp; omega
        obtain ⟨qn, rfl⟩ := Int.eq_ofNat_of_zero_le hq.1
        obtain ⟨rn, rfl⟩ := Int.eq_ofNat_of_zero_le hr.1
        have hqS : qn < S := by omega
        have hrS : rn < S := by omega
        have Hr : Hid (eqsR M qn rn = eqB M L (S + 1) qn rn) := Lib.hid (by unfold eqsR eqsOk; rw [hm, hqd', hrd', hg.hL, hMS]; simp)
        have Hc : Hid (eqsC M qn rn = 0) := Lib.hid (by unfold eqsC eqsOk; rw [hm, hqd', hrd']; rfl)
        have hz := zero_i16
        have Hz : Hid ((ints zer).size = 16) := Lib.hid (by rw [ints_size]; rfl)
        have Hcl : Hid ((ints (clsS M L S (S + 1))).size = 16) := Lib.hid (by rw [ints_size, clsS_len])
        have Hov : Hid (over (ints zer) 0 (ints (clsS M L S (S + 1))) = ints (clsS M L S (S + 1))) := Lib.hid (over_all _ _ (by rw [Hz.out, Hcl.out]))
        clear hq hr hqd' hrd' hMS
        have T1 := Lib.hid trivial; have T2 := Lib.hid trivial
        go_enter Try.func11, Try.ntmps11
        go_wp2_with (first | (with_reducible show wpList _ _ _ _ _ _; refine wpList_load_blk_g rfl 28 (.tmp 3) rfl w.heap.size 0 rfl (mc M) _ (by first | exact hB1 | exact hB) 98 F2.out _ Try.underlying28 rfl size_mach ?_; rw [F1.out]) | (go_at_call 24; refine (l01Is_calls M hok _).mono ?_; rintro e w1 ⟨rfl, hb1⟩; rw [hm]; have hB1 := hB.keptAll hb1; have cA := hB1.cell; have hbw1 := below_step hbw0 hb1) | (go_at_call 28; clear T1; refine (l01In_st _ S _ hqd _).mono ?_; rintro e w' ⟨rfl, rfl⟩) | (go_at_call 28; clear T2; refine (l01In_st _ S _ hrd _).mono ?_; rintro e w' ⟨rfl, rfl⟩) | (go_at_call 29; refine (l01Classes_calls M L S hg _).mono ?_; rintro e w4 ⟨rfl, hb4⟩; have hbw4 := below_alloc' (below_step hbw1 hb4) (.cells (ints zer) 50); have hA4 : Blk (w4.alloc (.cells (ints zer) 50)) w4.heap.size (ints zer) 50 := Blk.new _ _ _; have hge4 := (below_step hbw1 hb4).size) | (with_reducible show wpList _ _ _ _ _ _; refine wpList_store_row rfl 50 (.tmp 8) (.tmp 29) rfl w4.heap.size 0 (ints (clsS M L S (S + 1))) rfl rfl _ _ hA4 (by rw [Hz.out, Hcl.out]; omega) (by rw [Hcl.out]; exact size_i16) (ints_one _) _ Hov.out ?_; intro w5 hs5))
        have hC5 := hs5.blk
        have hbw5 := hs5.below _ _ (by omega) hbw4
        have e1 := ints_at (clsS M L S (S + 1)) qn (by rw [clsS_len]; omega)
        have e2 := ints_at (clsS M L S (S + 1)) rn (by rw [clsS_len]; omega)
        rw [clsS_at M L S (S + 1) qn hqS hS16] at e1
        rw [clsS_at M L S (S + 1) rn hrS hS16] at e2
        have cC := hC5.cell
        have hqi : (qn : Int) < 16 := by omega
        have hri : (rn : Int) < 16 := by omega
        have Hres := Lib.hid (lst_eqB (M := M) (L := L) (S := S) (q := qn) (r := rn))
        generalize lst M L (S + 1) qn = n1 at *
        generalize lst M L (S + 1) rn = n2 at *
        go_quiet (fail)
        go_wp2
        go_ret2
        exact ⟨ret_oi (by rw [Hr.out, ← Hres.out]; rfl) Hc.out.symm, by (repeat (first | exact Below.refl _ _ | refine below_drew' ?_ | refine below_drewN' ?_ _ | refine below_alloc' ?_ _ | refine below_set' ?_ (by (try simp); (try omega)) _ | refine below_step ?_ (by assumption)))⟩
      · have hrd : decide (0 ≤ r ∧ r ≤ (S : Int) - 1) = false := by simpa using hr
        have hrd' : decide (0 ≤ r ∧ r < M.S) = false := by rw [hMS]; simp; omega
        have Hr : Hid (eqsR M q r = false) := Lib.hid (by unfold eqsR eqsOk; rw [hqd', hrd']; simp)
        have Hc : Hid (eqsC M q r = 2) := Lib.hid (by unfold eqsC eqsOk; rw [hm, hqd', hrd']; rfl)
        clear hq hr hqd' hrd' hMS hg
        have T1 := Lib.hid trivial; have T2 := Lib.hid trivial
        go_enter Try.func11, Try.ntmps11
        go_wp2_with (first | (with_reducible show wpList _ _ _ _ _ _; refine wpList_load_blk_g rfl 28 (.tmp 3) rfl w.heap.size 0 rfl (mc M) _ (by first | exact hB1 | exact hB) 98 F2.out _ Try.underlying28 rfl size_mach ?_; rw [F1.out]) | (go_at_call 24; refine (l01Is_calls M hok _).mono ?_; rintro e w1 ⟨rfl, hb1⟩; rw [hm]; have hB1 := hB.keptAll hb1; have cA := hB1.cell; have hbw1 := below_step hbw0 hb1) | (go_at_call 28; clear T1; refine (l01In_st _ S _ hqd _).mono ?_; rintro e w' ⟨rfl, rfl⟩) | (go_at_call 28; clear T2; refine (l01In_st _ S _ hrd _).mono ?_; rintro e w' ⟨rfl, rfl⟩))
        go_ret2
        exact ⟨ret_oi Hr.out.symm Hc.out.symm, hbw1⟩
    · have hqd : decide (0 ≤ q ∧ q ≤ (S : Int) - 1) = false := by simpa using hq
      have hqd' : decide (0 ≤ q ∧ q < M.S) = false := by rw [hMS]; simp; omega
      have Hr : Hid (eqsR M q r = false) := Lib.hid (by unfold eqsR eqsOk; rw [hqd']; simp)
      have Hc : Hid (eqsC M q r = 2) := Lib.hid (by unfold eqsC eqsOk; rw [hm, hqd']; rfl)
      clear hq hqd' hMS hg
      go_enter Try.func11, Try.ntmps11
      go_wp2_with (first | (with_reducible show wpList _ _ _ _ _ _; refine wpList_load_blk_g rfl 28 (.tmp 3) rfl w.heap.size 0 rfl (mc M) _ (by first | exact hB1 | exact hB) 98 F2.out _ Try.underlying28 rfl size_mach ?_; rw [F1.out]) | (go_at_call 24; refine (l01Is_calls M hok _).mono ?_; rintro e w1 ⟨rfl, hb1⟩; rw [hm]; have hB1 := hB.keptAll hb1; have cA := hB1.cell; have hbw1 := below_step hbw0 hb1) | (go_at_call 28; refine (l01In_st _ S _ hqd _).mono ?_; rintro e w' ⟨rfl, rfl⟩))
      go_ret2
      exact ⟨ret_oi Hr.out.symm Hc.out.symm, hbw1⟩
end Go.Proofs.Ytgcieocknlhjlab
