/- Both 'AreEqualStates'. -/
import Derived.Test.YtgcieocknlhjlabMinC
import Derived.Test.YtgcieocknlhjlabMinT
import Derived.Test.YtgcieocknlhjlabLawB
import Derived.Test.YtgcieocknlhjlabMachD
import Derived.Deep.RegionWith
namespace Go.Proofs.Ytgcieocknlhjlab
open Go.RowKit

def eqsOk (M : Mach) (q r : Int) : Bool := decide (0 ≤ q ∧ q < M.S) && decide (0 ≤ r ∧ r < M.S)
def eqsR (M : Mach) (q r : Int) : Bool := isMach M && (eqsOk M q r && eqB M M.L.toNat (M.S.toNat + 1) q.toNat r.toNat)
def eqsC (M : Mach) (q r : Int) : Int := if isMach M then (if eqsOk M q r then 0 else 2) else 1
theorem ret_oi {a a' : Bool} {b b' : Int} (h : a = a') (h' : b = b') : Ending.returned (.tuple #[.bool a, .int .i64 b]) = Ending.returned (.tuple #[.bool a', .int .i64 b']) := by rw [h, h']
theorem num_eqB {M : Mach} {L S t : Nat} (hg : Good M L S) (ht : Still M L S t) {q r : Nat} (hq : q < S) (hr : r < S) : decide ((num M L t q : Int) = (num M L t r : Int)) = eqB M L (S + 1) q r := by
  rw [still_same hg (still_from hg (S + 1) (by omega)) ht hq hr, Bool.eq_iff_iff, decide_eq_true_iff, ← num_iff]
  omega
theorem lst_eqB {M : Mach} {L S q r : Nat} : decide ((lst M L (S + 1) q : Int) = (lst M L (S + 1) r : Int)) = eqB M L (S + 1) q r := by
  rw [Bool.eq_iff_iff, decide_eq_true_iff, ← lst_iff]
  omega

set_option maxRecDepth 100000 in
set_option maxHeartbeats 2000000 in
theorem iAreEqualStates_calls (M : Mach) (hok : M.Ok) (q r : Int) (w : World) :
    Calls Try.prog 12 #[.agg (mc M), .int .i64 q, .int .i64 r] w fun e w' => e = .returned (.tuple #[.bool (eqsR M q r), .int .i64 (eqsC M q r)]) ∧ Below w.heap.size w w' := by
  have F1 : Hid (cut (mc M) 0 98 = mc M) := Lib.hid (cut_all _ _ (mc_size hok)); have F2 : Hid (0 + 98 ≤ (mc M).size) := Lib.hid (by rw [mc_size hok]; omega)
  have hB : Blk (w.alloc (.cells (mc M) 28)) w.heap.size (mc M) 28 := Blk.new w _ _
  have hbw0 : Below w.heap.size w (w.alloc (.cells (mc M) 28)) := by (repeat (first | exact Below.refl _ _ | refine below_drew' ?_ | refine below_drewN' ?_ _ | refine below_alloc' ?_ _ | refine below_set' ?_ (by (try simp); (try omega)) _ | refine below_step ?_ (by assumption)))
  cases hm : isMach M
  · have Hr : Hid (eqsR M q r = false) := Lib.hid (by simp [eqsR, hm])
    have Hc : Hid (eqsC M q r = 1) := Lib.hid (by simp [eqsC, hm])
    go_enter Try.func12, Try.ntmps12
    go_wp2_with (first | (with_reducible show wpList _ _ _ _ _ _; refine wpList_load_blk rfl 28 (.tmp 3) rfl w.heap.size 0 rfl (mc M) _ (hB) 98 F2.out _ Try.underlying28 rfl size_mach ?_; rw [F1.out]) | (go_at_call 27; refine (IsMachine_calls M hok _).mono ?_; rintro e w1 ⟨rfl, hb1⟩; rw [hm]))
    go_ret2
    exact ⟨ret_oi Hr.out.symm Hc.out.symm, by (repeat (first | exact Below.refl _ _ | refine below_drew' ?_ | refine below_drewN' ?_ _ | refine below_alloc' ?_ _ | refine below_set' ?_ (by (try simp); (try omega)) _ | refine below_step ?_ (by assumption)))⟩
  · obtain ⟨L, S, hg⟩ := Good.of hok hm
    have hS16 := hg.S16
    by_cases hq : 0 ≤ q ∧ q < M.S
    · have hqd : decide (0 ≤ q ∧ q < M.S) = true := by simpa using hq
      by_cases hr : 0 ≤ r ∧ r < M.S
      · have hrd : decide (0 ≤ r ∧ r < M.S) = true := by simpa using hr
        have hMS := hg.hS
        obtain ⟨qn, rfl⟩ := Int.eq_ofNat_of_zero_le hq.1
        obtain ⟨rn, rfl⟩ := Int.eq_ofNat_of_zero_le hr.1
        have hqS : qn < S := by omega
        have hrS : rn < S := by omega
        have Hr : Hid (eqsR M qn rn = eqB M L (S + 1) qn rn) := Lib.hid (by unfold eqsR eqsOk; rw [hm, hqd, hrd, hg.hL, hMS]; simp)
        have Hc : Hid (eqsC M qn rn = 0) := Lib.hid (by unfold eqsC eqsOk; rw [hm, hqd, hrd]; rfl)
        have hz := zero_c16
        have Hz : Hid ((c8 zer).size = 16) := Lib.hid (by rw [c8_size]; rfl)
        clear hq hr
        have T1 := Lib.hid trivial; have T2 := Lib.hid trivial
        go_enter Try.func12, Try.ntmps12
        go_wp2_with (first | (with_reducible show wpList _ _ _ _ _ _; refine wpList_load_blk_g rfl 28 (.tmp 3) rfl w.heap.size 0 rfl (mc M) _ (by first | exact hB3 | exact hB2 | exact hB1 | exact hB) 98 F2.out _ Try.underlying28 rfl size_mach ?_; rw [F1.out]) | (go_at_call 27; refine (IsMachine_calls M hok _).mono ?_; rintro e w1 ⟨rfl, hb1⟩; rw [hm]; have hB1 := hB.keptAll hb1; have hbw1 := below_step hbw0 hb1) | (go_at_call 30; clear T1; refine (isState_calls M qn _).mono ?_; rintro e w2 ⟨rfl, hb2⟩; rw [hqd]; have hB2 := hB1.keptAll hb2; have hbw2 := below_step hbw1 hb2) | (go_at_call 30; clear T2; refine (isState_calls M rn _).mono ?_; rintro e w3 ⟨rfl, hb3⟩; rw [hrd]; have hB3 := hB2.keptAll hb3; have hbw3 := below_step hbw2 hb3) | (go_at_call 31; refine (classesOf_calls M L S hg _).mono ?_; rintro e w4 ⟨⟨t, ht, rfl⟩, hb4⟩; have hbw4 := below_alloc' (below_step hbw3 hb4) (.cells (c8 zer) 53); have hA4 : Blk (w4.alloc (.cells (c8 zer) 53)) w4.heap.size (c8 zer) 53 := Blk.new _ _ _; have hge4 := (below_step hbw3 hb4).size; have Hcl : Hid ((c8 (clsU M L S t)).size = 16) := Lib.hid (by rw [c8_size, clsU_len]); have Hov : Hid (over (c8 zer) 0 (c8 (clsU M L S t)) = c8 (clsU M L S t)) := Lib.hid (over_all _ _ (by rw [Hz.out, Hcl.out]))) | (with_reducible show wpList _ _ _ _ _ _; refine wpList_store_row rfl 53 (.tmp 8) (.tmp 23) rfl w4.heap.size 0 (c8 (clsU M L S t)) rfl rfl _ _ hA4 (by rw [Hz.out, Hcl.out]; omega) (by rw [Hcl.out]; exact size_c16) (c8_one _) _ Hov.out ?_; intro w5 hs5))
        have hC5 := hs5.blk
        have hbw5 := hs5.below _ _ (by omega) hbw4
        have e1 := c8_at (clsU M L S t) qn (by rw [clsU_len]; omega)
        have e2 := c8_at (clsU M L S t) rn (by rw [clsU_len]; omega)
        rw [clsU_at M L S t qn hqS hS16] at e1
        rw [clsU_at M L S t rn hrS hS16] at e2
        have cC := hC5.cell
        have hqi : (qn : Int) < 16 := by omega
        have hri : (rn : Int) < 16 := by omega
        have Hres := Lib.hid (num_eqB hg ht hqS hrS)
        generalize num M L t qn = n1 at *
        generalize num M L t rn = n2 at *
        go_quiet (fail)
        go_wp2
        go_ret2
        exact ⟨ret_oi (by rw [Hr.out, ← Hres.out]; rfl) Hc.out.symm, by (repeat (first | exact Below.refl _ _ | refine below_drew' ?_ | refine below_drewN' ?_ _ | refine below_alloc' ?_ _ | refine below_set' ?_ (by (try simp); (try omega)) _ | refine below_step ?_ (by assumption)))⟩
      · have hrd : decide (0 ≤ r ∧ r < M.S) = false := by simpa using hr
        have Hr : Hid (eqsR M q r = false) := Lib.hid (by unfold eqsR eqsOk; rw [hqd, hrd]; simp)
        have Hc : Hid (eqsC M q r = 2) := Lib.hid (by unfold eqsC eqsOk; rw [hm, hqd, hrd]; rfl)
        clear hq hr hg
        have T1 := Lib.hid trivial; have T2 := Lib.hid trivial
        go_enter Try.func12, Try.ntmps12
        go_wp2_with (first | (with_reducible show wpList _ _ _ _ _ _; refine wpList_load_blk_g rfl 28 (.tmp 3) rfl w.heap.size 0 rfl (mc M) _ (by first | exact hB2 | exact hB1 | exact hB) 98 F2.out _ Try.underlying28 rfl size_mach ?_; rw [F1.out]) | (go_at_call 27; refine (IsMachine_calls M hok _).mono ?_; rintro e w1 ⟨rfl, hb1⟩; rw [hm]; have hB1 := hB.keptAll hb1; have hbw1 := below_step hbw0 hb1) | (go_at_call 30; clear T1; refine (isState_calls M q _).mono ?_; rintro e w2 ⟨rfl, hb2⟩; rw [hqd]; have hB2 := hB1.keptAll hb2; have hbw2 := below_step hbw1 hb2) | (go_at_call 30; clear T2; refine (isState_calls M r _).mono ?_; rintro e w3 ⟨rfl, hb3⟩; rw [hrd]; have hbw3 := below_step hbw2 hb3))
        go_ret2
        exact ⟨ret_oi Hr.out.symm Hc.out.symm, hbw3⟩
    · have hqd : decide (0 ≤ q ∧ q < M.S) = false := by simpa using hq
      have Hr : Hid (eqsR M q r = false) := Lib.hid (by unfold eqsR eqsOk; rw [hqd]; simp)
      have Hc : Hid (eqsC M q r = 2) := Lib.hid (by unfold eqsC eqsOk; rw [hm, hqd]; rfl)
      clear hq hg
      go_enter Try.func12, Try.ntmps12
      go_wp2_with (first | (with_reducible show wpList _ _ _ _ _ _; refine wpList_load_blk_g rfl 28 (.tmp 3) rfl w.heap.size 0 rfl (mc M) _ (by first | exact hB1 | exact hB) 98 F2.out _ Try.underlying28 rfl size_mach ?_; rw [F1.out]) | (go_at_call 27; refine (IsMachine_calls M hok _).mono ?_; rintro e w1 ⟨rfl, hb1⟩; rw [hm]; have hB1 := hB.keptAll hb1; have hbw1 := below_step hbw0 hb1) | (go_at_call 30; refine (isState_calls M q _).mono ?_; rintro e w2 ⟨rfl, hb2⟩; rw [hqd]; have hbw2 := below_step hbw1 hb2))
      go_ret2
      exact ⟨ret_oi Hr.out.symm Hc.out.symm, hbw2⟩
end Go.Proofs.Ytgcieocknlhjlab
