/- Checks of two states: 'checkStates', 'l07Both', 'l07State'. Written by gen/genchs.py. -/
import Derived.Test.YtkkooafjpancoaaLawB
import Derived.Test.YtkkooafjpancoaaMachD
import Derived.Test.YtkkooafjpancoaaWordA0
namespace Go.Proofs.Ytkkooafjpancoaa
open Go.RowKit

def inS (M : Mach) (q : Int) : Bool := decide (0 ≤ q ∧ q < M.S)
def stC (M : Mach) (q : Int) : Int := if isMach M = true then (if inS M q = true then 0 else 2) else 1
def twoC (M : Mach) (q : Int) (J : Mach) (r : Int) : Int := if isMach M = true then (if isMach J = true then (if inS M q = true then (if inS J r = true then (if M.L = J.L then 0 else 2) else 2) else 2) else 1) else 1
theorem inS_model (M : Mach) (q : Int) : decide (0 ≤ q ∧ q ≤ M.S - 1) = inS M q := by
  unfold inS; exact decide_eq_decide.2 ⟨fun h => ⟨h.1, by omega⟩, fun h => ⟨h.1, by omega⟩⟩
theorem mach_small {M : Mach} (h : isMach M = true) : 2 ≤ M.L ∧ M.L ≤ 3 ∧ 1 ≤ M.S ∧ M.S ≤ 16 := by
  unfold isMach at h
  simp only [Bool.and_eq_true, decide_eq_true_eq] at h
  omega
theorem wrap_pred {s : Int} (h : 1 ≤ s ∧ s ≤ 16) : IntKind.i64.wrap (s - 1) = s - 1 := by simp [IntKind.wrap, IntKind.bits, IntKind.signed]; omega


set_option maxRecDepth 100000 in
set_option maxHeartbeats 1000000 in
theorem checkStates_calls (M J : Mach) (hok : M.Ok) (hoj : J.Ok) (q r : Int) (w : World) :
    Calls Try.prog 47 #[.agg (mc M), .int .i64 q, .agg (mc J), .int .i64 r] w fun e w' => e = .returned (.int .i64 (twoC M q J r)) ∧ Below w.heap.size w w' := by
  have F1 : Hid (cut (mc M) 0 98 = mc M) := Lib.hid (cut_all _ _ (mc_size hok))
  have F2 : Hid (0 + 98 ≤ (mc M).size) := Lib.hid (by rw [mc_size hok]; omega)
  have G1 : Hid (cut (mc J) 0 98 = mc J) := Lib.hid (cut_all _ _ (mc_size hoj))
  have G2 : Hid (0 + 98 ≤ (mc J).size) := Lib.hid (by rw [mc_size hoj]; omega)
  have hM0 : Blk ((w.alloc (.cells (mc M) 28)).alloc (.cells (mc J) 28)) w.heap.size (mc M) 28 := (Blk.new w _ _).alloc _
  have hJ0 : Blk ((w.alloc (.cells (mc M) 28)).alloc (.cells (mc J) 28)) (w.heap.size + 1) (mc J) 28 := Blk.new_at _ _ _ _ (by simp)
  have hb0 : Below w.heap.size w ((w.alloc (.cells (mc M) 28)).alloc (.cells (mc J) 28)) := by (repeat (first | exact Below.refl _ _ | refine below_drew' ?_ | refine below_drewN' ?_ _ | refine below_alloc' ?_ _ | refine below_set' ?_ (by (try simp); (try omega)) _ | refine below_step ?_ (by assumption)))
  have sM0 := (hM0.cell 1).trans (mc_S M)
  have sJ0 := (hJ0.cell 1).trans (mc_S J)
  have lM0 := (hM0.cell 0).trans (mc_L M)
  have lJ0 := (hJ0.cell 0).trans (mc_L J)
  cases hm : isMach M
  · have Hc : Hid (twoC M q J r = 1) := Lib.hid (by simp [twoC, hm])
    have T1 := Lib.hid trivial; have T2 := Lib.hid trivial; have T3 := Lib.hid trivial; have T4 := Lib.hid trivial
    go_enter Try.func47, Try.ntmps47
    go_wp2_with (first | (with_reducible show wpList _ _ _ _ _ _; refine wpList_load_blk rfl 28 (.tmp 4) rfl w.heap.size 0 rfl (mc M) _ (by first | exact hM4 | exact hM3 | exact hM2 | exact hM1 | exact hM0) 98 F2.out _ Try.underlying28 rfl size_mach ?_; rw [F1.out]))
    (go_at_call 38; clear T1; refine (IsMachine_calls M hok _).mono ?_; rintro e w1 ⟨rfl, hc1⟩; rw [hm]; have hM1 := hM0.keptAll hc1; have hJ1 := hJ0.keptAll hc1; have hb1 := below_step hb0 hc1; have sM1 := (hM1.cell 1).trans (mc_S M); have sJ1 := (hJ1.cell 1).trans (mc_S J); have lM1 := (hM1.cell 0).trans (mc_L M); have lJ1 := (hJ1.cell 0).trans (mc_L J))
    go_wp2
    go_ret
    exact ⟨ret_int Hc.out.symm, by first | exact hb4 | exact hb3 | exact hb2 | exact hb1⟩
  · cases hj : isMach J
    · have Hc : Hid (twoC M q J r = 1) := Lib.hid (by simp [twoC, hm, hj])
      have T1 := Lib.hid trivial; have T2 := Lib.hid trivial; have T3 := Lib.hid trivial; have T4 := Lib.hid trivial
      go_enter Try.func47, Try.ntmps47
      go_wp2_with (first | (with_reducible show wpList _ _ _ _ _ _; refine wpList_load_blk rfl 28 (.tmp 4) rfl w.heap.size 0 rfl (mc M) _ (by first | exact hM4 | exact hM3 | exact hM2 | exact hM1 | exact hM0) 98 F2.out _ Try.underlying28 rfl size_mach ?_; rw [F1.out]) | (with_reducible show wpList _ _ _ _ _ _; refine wpList_load_blk_g rfl 28 (.tmp 6) rfl (w.heap.size + 1) 0 rfl (mc J) _ (by first | exact hJ4 | exact hJ3 | exact hJ2 | exact hJ1 | exact hJ0) 98 G2.out _ Try.underlying28 rfl size_mach ?_; rw [G1.out]) | (go_at_call 38; clear T1; refine (IsMachine_calls M hok _).mono ?_; rintro e w1 ⟨rfl, hc1⟩; rw [hm]; have hM1 := hM0.keptAll hc1; have hJ1 := hJ0.keptAll hc1; have hb1 := below_step hb0 hc1; have sM1 := (hM1.cell 1).trans (mc_S M); have sJ1 := (hJ1.cell 1).trans (mc_S J); have lM1 := (hM1.cell 0).trans (mc_L M); have lJ1 := (hJ1.cell 0).trans (mc_L J)))
      (go_at_call 38; clear T2; refine (IsMachine_calls J hoj _).mono ?_; rintro e w2 ⟨rfl, hc2⟩; rw [hj]; have hM2 := hM1.keptAll hc2; have hJ2 := hJ1.keptAll hc2; have hb2 := below_step hb1 hc2; have sM2 := (hM2.cell 1).trans (mc_S M); have sJ2 := (hJ2.cell 1).trans (mc_S J); have lM2 := (hM2.cell 0).trans (mc_L M); have lJ2 := (hJ2.cell 0).trans (mc_L J))
      go_wp2
      go_ret
      exact ⟨ret_int Hc.out.symm, by first | exact hb4 | exact hb3 | exact hb2 | exact hb1⟩
    · obtain ⟨mL2, mL3, mS1, mS16⟩ := mach_small hm
      obtain ⟨jL2, jL3, jS1, jS16⟩ := mach_small hj
      have wM := wrap_pred ⟨mS1, mS16⟩
      have wJ := wrap_pred ⟨jS1, jS16⟩
      cases hq : inS M q
      · have Hc : Hid (twoC M q J r = 2) := Lib.hid (by simp [twoC, hm, hj, hq])
        have T1 := Lib.hid trivial; have T2 := Lib.hid trivial; have T3 := Lib.hid trivial; have T4 := Lib.hid trivial
        go_enter Try.func47, Try.ntmps47
        go_wp2_with (first | (with_reducible show wpList _ _ _ _ _ _; refine wpList_load_blk rfl 28 (.tmp 4) rfl w.heap.size 0 rfl (mc M) _ (by first | exact hM4 | exact hM3 | exact hM2 | exact hM1 | exact hM0) 98 F2.out _ Try.underlying28 rfl size_mach ?_; rw [F1.out]) | (with_reducible show wpList _ _ _ _ _ _; refine wpList_load_blk_g rfl 28 (.tmp 6) rfl (w.heap.size + 1) 0 rfl (mc J) _ (by first | exact hJ4 | exact hJ3 | exact hJ2 | exact hJ1 | exact hJ0) 98 G2.out _ Try.underlying28 rfl size_mach ?_; rw [G1.out]) | (go_at_call 38; clear T1; refine (IsMachine_calls M hok _).mono ?_; rintro e w1 ⟨rfl, hc1⟩; rw [hm]; have hM1 := hM0.keptAll hc1; have hJ1 := hJ0.keptAll hc1; have hb1 := below_step hb0 hc1; have sM1 := (hM1.cell 1).trans (mc_S M); have sJ1 := (hJ1.cell 1).trans (mc_S J); have lM1 := (hM1.cell 0).trans (mc_L M); have lJ1 := (hJ1.cell 0).trans (mc_L J)) | (go_at_call 38; clear T2; refine (IsMachine_calls J hoj _).mono ?_; rintro e w2 ⟨rfl, hc2⟩; rw [hj]; have hM2 := hM1.keptAll hc2; have hJ2 := hJ1.keptAll hc2; have hb2 := below_step hb1 hc2; have sM2 := (hM2.cell 1).trans (mc_S M); have sJ2 := (hJ2.cell 1).trans (mc_S J); have lM2 := (hM2.cell 0).trans (mc_L M); have lJ2 := (hJ2.cell 0).trans (mc_L J)))
        (go_at_call 73; clear T3; refine (isState_calls M q _).mono ?_; rintro e w3 ⟨rfl, hc3⟩; rw [show decide (0 ≤ q ∧ q < M.S) = inS M q from rfl, hq]; have hM3 := hM2.keptAll hc3; have hJ3 := hJ2.keptAll hc3; have hb3 := below_step hb2 hc3; have sM3 := (hM3.cell 1).trans (mc_S M); have sJ3 := (hJ3.cell 1).trans (mc_S J); have lM3 := (hM3.cell 0).trans (mc_L M); have lJ3 := (hJ3.cell 0).trans (mc_L J))
        go_wp2
        go_ret
        exact ⟨ret_int Hc.out.symm, by first | exact hb4 | exact hb3 | exact hb2 | exact hb1⟩
      · cases hr : inS J r
        · have Hc : Hid (twoC M q J r = 2) := Lib.hid (by simp [twoC, hm, hj, hq, hr])
          have T1 := Lib.hid trivial; have T2 := Lib.hid trivial; have T3 := Lib.hid trivial; have T4 := Lib.hid trivial
          go_enter Try.func47, Try.ntmps47
          go_wp2_with (first | (with_reducible show wpList _ _ _ _ _ _; refine wpList_load_blk rfl 28 (.tmp 4) rfl w.heap.size 0 rfl (mc M) _ (by first | exact hM4 | exact hM3 | exact hM2 | exact hM1 | exact hM0) 98 F2.out _ Try.underlying28 rfl size_mach ?_; rw [F1.out]) | (with_reducible show wpList _ _ _ _ _ _; refine wpList_load_blk_g rfl 28 (.tmp 6) rfl (w.heap.size + 1) 0 rfl (mc J) _ (by first | exact hJ4 | exact hJ3 | exact hJ2 | exact hJ1 | exact hJ0) 98 G2.out _ Try.underlying28 rfl size_mach ?_; rw [G1.out]) | (go_at_call 38; clear T1; refine (IsMachine_calls M hok _).mono ?_; rintro e w1 ⟨rfl, hc1⟩; rw [hm]; have hM1 := hM0.keptAll hc1; have hJ1 := hJ0.keptAll hc1; have hb1 := below_step hb0 hc1; have sM1 := (hM1.cell 1).trans (mc_S M); have sJ1 := (hJ1.cell 1).trans (mc_S J); have lM1 := (hM1.cell 0).trans (mc_L M); have lJ1 := (hJ1.cell 0).trans (mc_L J)) | (go_at_call 38; clear T2; refine (IsMachine_calls J hoj _).mono ?_; rintro e w2 ⟨rfl, hc2⟩; rw [hj]; have hM2 := hM1.keptAll hc2; have hJ2 := hJ1.keptAll hc2; have hb2 := below_step hb1 hc2; have sM2 := (hM2.cell 1).trans (mc_S M); have sJ2 := (hJ2.cell 1).trans (mc_S J); have lM2 := (hM2.cell 0).trans (mc_L M); have lJ2 := (hJ2.cell 0).trans (mc_L J)) | (go_at_call 73; clear T3; refine (isState_calls M q _).mono ?_; rintro e w3 ⟨rfl, hc3⟩; rw [show decide (0 ≤ q ∧ q < M.S) = inS M q from rfl, hq]; have hM3 := hM2.keptAll hc3; have hJ3 := hJ2.keptAll hc3; have hb3 := below_step hb2 hc3; have sM3 := (hM3.cell 1).trans (mc_S M); have sJ3 := (hJ3.cell 1).trans (mc_S J); have lM3 := (hM3.cell 0).trans (mc_L M); have lJ3 := (hJ3.cell 0).trans (mc_L J)))
          (go_at_call 73; clear T4; refine (isState_calls J r _).mono ?_; rintro e w4 ⟨rfl, hc4⟩; rw [show decide (0 ≤ r ∧ r < J.S) = inS J r from rfl, hr]; have hM4 := hM3.keptAll hc4; have hJ4 := hJ3.keptAll hc4; have hb4 := below_step hb3 hc4; have sM4 := (hM4.cell 1).trans (mc_S M); have sJ4 := (hJ4.cell 1).trans (mc_S J); have lM4 := (hM4.cell 0).trans (mc_L M); have lJ4 := (hJ4.cell 0).trans (mc_L J))
          go_wp2
          go_ret
          exact ⟨ret_int Hc.out.symm, by first | exact hb4 | exact hb3 | exact hb2 | exact hb1⟩
        · by_cases hl : M.L = J.L
          · have Hc : Hid (twoC M q J r = 0) := Lib.hid (by simp [twoC, hm, hj, hq, hr, hl])
            have T1 := Lib.hid trivial; have T2 := Lib.hid trivial; have T3 := Lib.hid trivial; have T4 := Lib.hid trivial
            go_enter Try.func47, Try.ntmps47
            go_wp2_with (first | (with_reducible show wpList _ _ _ _ _ _; refine wpList_load_blk rfl 28 (.tmp 4) rfl w.heap.size 0 rfl (mc M) _ (by first | exact hM4 | exact hM3 | exact hM2 | exact hM1 | exact hM0) 98 F2.out _ Try.underlying28 rfl size_mach ?_; rw [F1.out]) | (with_reducible show wpList _ _ _ _ _ _; refine wpList_load_blk_g rfl 28 (.tmp 6) rfl (w.heap.size + 1) 0 rfl (mc J) _ (by first | exact hJ4 | exact hJ3 | exact hJ2 | exact hJ1 | exact hJ0) 98 G2.out _ Try.underlying28 rfl size_mach ?_; rw [G1.out]) | (go_at_call 38; clear T1; refine (IsMachine_calls M hok _).mono ?_; rintro e w1 ⟨rfl, hc1⟩; rw [hm]; have hM1 := hM0.keptAll hc1; have hJ1 := hJ0.keptAll hc1; have hb1 := below_step hb0 hc1; have sM1 := (hM1.cell 1).trans (mc_S M); have sJ1 := (hJ1.cell 1).trans (mc_S J); have lM1 := (hM1.cell 0).trans (mc_L M); have lJ1 := (hJ1.cell 0).trans (mc_L J)) | (go_at_call 38; clear T2; refine (IsMachine_calls J hoj _).mono ?_; rintro e w2 ⟨rfl, hc2⟩; rw [hj]; have hM2 := hM1.keptAll hc2; have hJ2 := hJ1.keptAll hc2; have hb2 := below_step hb1 hc2; have sM2 := (hM2.cell 1).trans (mc_S M); have sJ2 := (hJ2.cell 1).trans (mc_S J); have lM2 := (hM2.cell 0).trans (mc_L M); have lJ2 := (hJ2.cell 0).trans (mc_L J)) | (go_at_call 73; clear T3; refine (isState_calls M q _).mono ?_; rintro e w3 ⟨rfl, hc3⟩; rw [show decide (0 ≤ q ∧ q < M.S) = inS M q from rfl, hq]; have hM3 := hM2.keptAll hc3; have hJ3 := hJ2.keptAll hc3; have hb3 := below_step hb2 hc3; have sM3 := (hM3.cell 1).trans (mc_S M); have sJ3 := (hJ3.cell 1).trans (mc_S J); have lM3 := (hM3.cell 0).trans (mc_L M); have lJ3 := (hJ3.cell 0).trans (mc_L J)))
            (go_at_call 73; clear T4; refine (isState_calls J r _).mono ?_; rintro e w4 ⟨rfl, hc4⟩; rw [show decide (0 ≤ r ∧ r < J.S) = inS J r from rfl, hr]; have hM4 := hM3.keptAll hc4; have hJ4 := hJ3.keptAll hc4; have hb4 := below_step hb3 hc4; have sM4 := (hM4.cell 1).trans (mc_S M); have sJ4 := (hJ4.cell 1).trans (mc_S J); have lM4 := (hM4.cell 0).trans (mc_L M); have lJ4 := (hJ4.cell 0).trans (mc_L J))
            go_wp2
            go_ret
            exact ⟨ret_int Hc.out.symm, by first | exact hb4 | exact hb3 | exact hb2 | exact hb1⟩
          · have Hc : Hid (twoC M q J r = 2) := Lib.hid (by simp [twoC, hm, hj, hq, hr, hl])
            have T1 := Lib.hid trivial; have T2 := Lib.hid trivial; have T3 := Lib.hid trivial; have T4 := Lib.hid trivial
            go_enter Try.func47, Try.ntmps47
            go_wp2_with (first | (with_reducible show wpList _ _ _ _ _ _; refine wpList_load_blk rfl 28 (.tmp 4) rfl w.heap.size 0 rfl (mc M) _ (by first | exact hM4 | exact hM3 | exact hM2 | exact hM1 | exact hM0) 98 F2.out _ Try.underlying28 rfl size_mach ?_; rw [F1.out]) | (with_reducible show wpList _ _ _ _ _ _; refine wpList_load_blk_g rfl 28 (.tmp 6) rfl (w.heap.size + 1) 0 rfl (mc J) _ (by first | exact hJ4 | exact hJ3 | exact hJ2 | exact hJ1 | exact hJ0) 98 G2.out _ Try.underlying28 rfl size_mach ?_; rw [G1.out]) | (go_at_call 38; clear T1; refine (IsMachine_calls M hok _).mono ?_; rintro e w1 ⟨rfl, hc1⟩; rw [hm]; have hM1 := hM0.keptAll hc1; have hJ1 := hJ0.keptAll hc1; have hb1 := below_step hb0 hc1; have sM1 := (hM1.cell 1).trans (mc_S M); have sJ1 := (hJ1.cell 1).trans (mc_S J); have lM1 := (hM1.cell 0).trans (mc_L M); have lJ1 := (hJ1.cell 0).trans (mc_L J)) | (go_at_call 38; clear T2; refine (IsMachine_calls J hoj _).mono ?_; rintro e w2 ⟨rfl, hc2⟩; rw [hj]; have hM2 := hM1.keptAll hc2; have hJ2 := hJ1.keptAll hc2; have hb2 := below_step hb1 hc2; have sM2 := (hM2.cell 1).trans (mc_S M); have sJ2 := (hJ2.cell 1).trans (mc_S J); have lM2 := (hM2.cell 0).trans (mc_L M); have lJ2 := (hJ2.cell 0).trans (mc_L J)) | (go_at_call 73; clear T3; refine (isState_calls M q _).mono ?_; rintro e w3 ⟨rfl, hc3⟩; rw [show decide (0 ≤ q ∧ q < M.S) = inS M q from rfl, hq]; have hM3 := hM2.keptAll hc3; have hJ3 := hJ2.keptAll hc3; have hb3 := below_step hb2 hc3; have sM3 := (hM3.cell 1).trans (mc_S M); have sJ3 := (hJ3.cell 1).trans (mc_S J); have lM3 := (hM3.cell 0).trans (mc_L M); have lJ3 := (hJ3.cell 0).trans (mc_L J)))
            (go_at_call 73; clear T4; refine (isState_calls J r _).mono ?_; rintro e w4 ⟨rfl, hc4⟩; rw [show decide (0 ≤ r ∧ r < J.S) = inS J r from rfl, hr]; have hM4 := hM3.keptAll hc4; have hJ4 := hJ3.keptAll hc4; have hb4 := below_step hb3 hc4; have sM4 := (hM4.cell 1).trans (mc_S M); have sJ4 := (hJ4.cell 1).trans (mc_S J); have lM4 := (hM4.cell 0).trans (mc_L M); have lJ4 := (hJ4.cell 0).trans (mc_L J))
            go_wp2
            go_ret
            exact ⟨ret_int Hc.out.symm, by first | exact hb4 | exact hb3 | exact hb2 | exact hb1⟩

set_option maxRecDepth 100000 in
set_option maxHeartbeats 1000000 in
theorem l07Both_calls (M J : Mach) (hok : M.Ok) (hoj : J.Ok) (q r : Int) (w : World) :
    Calls Try.prog 45 #[.agg (mc M), .int .i64 q, .agg (mc J), .int .i64 r] w fun e w' => e = .returned (.int .i64 (twoC M q J r)) ∧ Below w.heap.size w w' := by
  have F1 : Hid (cut (mc M) 0 98 = mc M) := Lib.hid (cut_all _ _ (mc_size hok))
  have F2 : Hid (0 + 98 ≤ (mc M).size) := Lib.hid (by rw [mc_size hok]; omega)
  have G1 : Hid (cut (mc J) 0 98 = mc J) := Lib.hid (cut_all _ _ (mc_size hoj))
  have G2 : Hid (0 + 98 ≤ (mc J).size) := Lib.hid (by rw [mc_size hoj]; omega)
  have hM0 : Blk ((w.alloc (.cells (mc M) 28)).alloc (.cells (mc J) 28)) w.heap.size (mc M) 28 := (Blk.new w _ _).alloc _
  have hJ0 : Blk ((w.alloc (.cells (mc M) 28)).alloc (.cells (mc J) 28)) (w.heap.size + 1) (mc J) 28 := Blk.new_at _ _ _ _ (by simp)
  have hb0 : Below w.heap.size w ((w.alloc (.cells (mc M) 28)).alloc (.cells (mc J) 28)) := by (repeat (first | exact Below.refl _ _ | refine below_drew' ?_ | refine below_drewN' ?_ _ | refine below_alloc' ?_ _ | refine below_set' ?_ (by (try simp); (try omega)) _ | refine below_step ?_ (by assumption)))
  have sM0 := (hM0.cell 1).trans (mc_S M)
  have sJ0 := (hJ0.cell 1).trans (mc_S J)
  have lM0 := (hM0.cell 0).trans (mc_L M)
  have lJ0 := (hJ0.cell 0).trans (mc_L J)
  cases hm : isMach M
  · have Hc : Hid (twoC M q J r = 1) := Lib.hid (by simp [twoC, hm])
    have T1 := Lib.hid trivial; have T2 := Lib.hid trivial; have T3 := Lib.hid trivial; have T4 := Lib.hid trivial
    go_enter Try.func45, Try.ntmps45
    go_wp2_with (first | (with_reducible show wpList _ _ _ _ _ _; refine wpList_load_blk rfl 28 (.tmp 4) rfl w.heap.size 0 rfl (mc M) _ (by first | exact hM4 | exact hM3 | exact hM2 | exact hM1 | exact hM0) 98 F2.out _ Try.underlying28 rfl size_mach ?_; rw [F1.out]))
    (go_at_call 35; clear T1; refine (l01Is_calls M hok _).mono ?_; rintro e w1 ⟨rfl, hc1⟩; rw [hm]; have hM1 := hM0.keptAll hc1; have hJ1 := hJ0.keptAll hc1; have hb1 := below_step hb0 hc1; have sM1 := (hM1.cell 1).trans (mc_S M); have sJ1 := (hJ1.cell 1).trans (mc_S J); have lM1 := (hM1.cell 0).trans (mc_L M); have lJ1 := (hJ1.cell 0).trans (mc_L J))
    go_wp2
    go_ret
    exact ⟨ret_int Hc.out.symm, by first | exact hb4 | exact hb3 | exact hb2 | exact hb1⟩
  · cases hj : isMach J
    · have Hc : Hid (twoC M q J r = 1) := Lib.hid (by simp [twoC, hm, hj])
      have T1 := Lib.hid trivial; have T2 := Lib.hid trivial; have T3 := Lib.hid trivial; have T4 := Lib.hid trivial
      go_enter Try.func45, Try.ntmps45
      go_wp2_with (first | (with_reducible show wpList _ _ _ _ _ _; refine wpList_load_blk rfl 28 (.tmp 4) rfl w.heap.size 0 rfl (mc M) _ (by first | exact hM4 | exact hM3 | exact hM2 | exact hM1 | exact hM0) 98 F2.out _ Try.underlying28 rfl size_mach ?_; rw [F1.out]) | (with_reducible show wpList _ _ _ _ _ _; refine wpList_load_blk_g rfl 28 (.tmp 6) rfl (w.heap.size + 1) 0 rfl (mc J) _ (by first | exact hJ4 | exact hJ3 | exact hJ2 | exact hJ1 | exact hJ0) 98 G2.out _ Try.underlying28 rfl size_mach ?_; rw [G1.out]) | (go_at_call 35; clear T1; refine (l01Is_calls M hok _).mono ?_; rintro e w1 ⟨rfl, hc1⟩; rw [hm]; have hM1 := hM0.keptAll hc1; have hJ1 := hJ0.keptAll hc1; have hb1 := below_step hb0 hc1; have sM1 := (hM1.cell 1).trans (mc_S M); have sJ1 := (hJ1.cell 1).trans (mc_S J); have lM1 := (hM1.cell 0).trans (mc_L M); have lJ1 := (hJ1.cell 0).trans (mc_L J)))
      (go_at_call 35; clear T2; refine (l01Is_calls J hoj _).mono ?_; rintro e w2 ⟨rfl, hc2⟩; rw [hj]; have hM2 := hM1.keptAll hc2; have hJ2 := hJ1.keptAll hc2; have hb2 := below_step hb1 hc2; have sM2 := (hM2.cell 1).trans (mc_S M); have sJ2 := (hJ2.cell 1).trans (mc_S J); have lM2 := (hM2.cell 0).trans (mc_L M); have lJ2 := (hJ2.cell 0).trans (mc_L J))
      go_wp2
      go_ret
      exact ⟨ret_int Hc.out.symm, by first | exact hb4 | exact hb3 | exact hb2 | exact hb1⟩
    · obtain ⟨mL2, mL3, mS1, mS16⟩ := mach_small hm
      obtain ⟨jL2, jL3, jS1, jS16⟩ := mach_small hj
      have wM := wrap_pred ⟨mS1, mS16⟩
      have wJ := wrap_pred ⟨jS1, jS16⟩
      cases hq : inS M q
      · have Hc : Hid (twoC M q J r = 2) := Lib.hid (by simp [twoC, hm, hj, hq])
        have T1 := Lib.hid trivial; have T2 := Lib.hid trivial; have T3 := Lib.hid trivial; have T4 := Lib.hid trivial
        go_enter Try.func45, Try.ntmps45
        go_wp2_with (first | (with_reducible show wpList _ _ _ _ _ _; refine wpList_load_blk rfl 28 (.tmp 4) rfl w.heap.size 0 rfl (mc M) _ (by first | exact hM4 | exact hM3 | exact hM2 | exact hM1 | exact hM0) 98 F2.out _ Try.underlying28 rfl size_mach ?_; rw [F1.out]) | (with_reducible show wpList _ _ _ _ _ _; refine wpList_load_blk_g rfl 28 (.tmp 6) rfl (w.heap.size + 1) 0 rfl (mc J) _ (by first | exact hJ4 | exact hJ3 | exact hJ2 | exact hJ1 | exact hJ0) 98 G2.out _ Try.underlying28 rfl size_mach ?_; rw [G1.out]) | (go_at_call 35; clear T1; refine (l01Is_calls M hok _).mono ?_; rintro e w1 ⟨rfl, hc1⟩; rw [hm]; have hM1 := hM0.keptAll hc1; have hJ1 := hJ0.keptAll hc1; have hb1 := below_step hb0 hc1; have sM1 := (hM1.cell 1).trans (mc_S M); have sJ1 := (hJ1.cell 1).trans (mc_S J); have lM1 := (hM1.cell 0).trans (mc_L M); have lJ1 := (hJ1.cell 0).trans (mc_L J)) | (go_at_call 35; clear T2; refine (l01Is_calls J hoj _).mono ?_; rintro e w2 ⟨rfl, hc2⟩; rw [hj]; have hM2 := hM1.keptAll hc2; have hJ2 := hJ1.keptAll hc2; have hb2 := below_step hb1 hc2; have sM2 := (hM2.cell 1).trans (mc_S M); have sJ2 := (hJ2.cell 1).trans (mc_S J); have lM2 := (hM2.cell 0).trans (mc_L M); have lJ2 := (hJ2.cell 0).trans (mc_L J)))
        (go_at_call 42; clear T3; refine (l01In_calls q 0 (M.S - 1) _).mono ?_; rintro e w' ⟨rfl, rfl⟩; rw [inS_model, hq])
        go_wp2
        go_ret
        exact ⟨ret_int Hc.out.symm, by first | exact hb4 | exact hb3 | exact hb2 | exact hb1⟩
      · cases hr : inS J r
        · have Hc : Hid (twoC M q J r = 2) := Lib.hid (by simp [twoC, hm, hj, hq, hr])
          have T1 := Lib.hid trivial; have T2 := Lib.hid trivial; have T3 := Lib.hid trivial; have T4 := Lib.hid trivial
          go_enter Try.func45, Try.ntmps45
          go_wp2_with (first | (with_reducible show wpList _ _ _ _ _ _; refine wpList_load_blk rfl 28 (.tmp 4) rfl w.heap.size 0 rfl (mc M) _ (by first | exact hM4 | exact hM3 | exact hM2 | exact hM1 | exact hM0) 98 F2.out _ Try.underlying28 rfl size_mach ?_; rw [F1.out]) | (with_reducible show wpList _ _ _ _ _ _; refine wpList_load_blk_g rfl 28 (.tmp 6) rfl (w.heap.size + 1) 0 rfl (mc J) _ (by first | exact hJ4 | exact hJ3 | exact hJ2 | exact hJ1 | exact hJ0) 98 G2.out _ Try.underlying28 rfl size_mach ?_; rw [G1.out]) | (go_at_call 35; clear T1; refine (l01Is_calls M hok _).mono ?_; rintro e w1 ⟨rfl, hc1⟩; rw [hm]; have hM1 := hM0.keptAll hc1; have hJ1 := hJ0.keptAll hc1; have hb1 := below_step hb0 hc1; have sM1 := (hM1.cell 1).trans (mc_S M); have sJ1 := (hJ1.cell 1).trans (mc_S J); have lM1 := (hM1.cell 0).trans (mc_L M); have lJ1 := (hJ1.cell 0).trans (mc_L J)) | (go_at_call 35; clear T2; refine (l01Is_calls J hoj _).mono ?_; rintro e w2 ⟨rfl, hc2⟩; rw [hj]; have hM2 := hM1.keptAll hc2; have hJ2 := hJ1.keptAll hc2; have hb2 := below_step hb1 hc2; have sM2 := (hM2.cell 1).trans (mc_S M); have sJ2 := (hJ2.cell 1).trans (mc_S J); have lM2 := (hM2.cell 0).trans (mc_L M); have lJ2 := (hJ2.cell 0).trans (mc_L J)) | (go_at_call 42; clear T3; refine (l01In_calls q 0 (M.S - 1) _).mono ?_; rintro e w' ⟨rfl, rfl⟩; rw [inS_model, hq]))
          (go_at_call 42; clear T4; refine (l01In_calls r 0 (J.S - 1) _).mono ?_; rintro e w' ⟨rfl, rfl⟩; rw [inS_model, hr])
          go_wp2
          go_ret
          exact ⟨ret_int Hc.out.symm, by first | exact hb4 | exact hb3 | exact hb2 | exact hb1⟩
        · by_cases hl : M.L = J.L
          · have Hc : Hid (twoC M q J r = 0) := Lib.hid (by simp [twoC, hm, hj, hq, hr, hl])
            have T1 := Lib.hid trivial; have T2 := Lib.hid trivial; have T3 := Lib.hid trivial; have T4 := Lib.hid trivial
            go_enter Try.func45, Try.ntmps45
            go_wp2_with (first | (with_reducible show wpList _ _ _ _ _ _; refine wpList_load_blk rfl 28 (.tmp 4) rfl w.heap.size 0 rfl (mc M) _ (by first | exact hM4 | exact hM3 | exact hM2 | exact hM1 | exact hM0) 98 F2.out _ Try.underlying28 rfl size_mach ?_; rw [F1.out]) | (with_reducible show wpList _ _ _ _ _ _; refine wpList_load_blk_g rfl 28 (.tmp 6) rfl (w.heap.size + 1) 0 rfl (mc J) _ (by first | exact hJ4 | exact hJ3 | exact hJ2 | exact hJ1 | exact hJ0) 98 G2.out _ Try.underlying28 rfl size_mach ?_; rw [G1.out]) | (go_at_call 35; clear T1; refine (l01Is_calls M hok _).mono ?_; rintro e w1 ⟨rfl, hc1⟩; rw [hm]; have hM1 := hM0.keptAll hc1; have hJ1 := hJ0.keptAll hc1; have hb1 := below_step hb0 hc1; have sM1 := (hM1.cell 1).trans (mc_S M); have sJ1 := (hJ1.cell 1).trans (mc_S J); have lM1 := (hM1.cell 0).trans (mc_L M); have lJ1 := (hJ1.cell 0).trans (mc_L J)) | (go_at_call 35; clear T2; refine (l01Is_calls J hoj _).mono ?_; rintro e w2 ⟨rfl, hc2⟩; rw [hj]; have hM2 := hM1.keptAll hc2; have hJ2 := hJ1.keptAll hc2; have hb2 := below_step hb1 hc2; have sM2 := (hM2.cell 1).trans (mc_S M); have sJ2 := (hJ2.cell 1).trans (mc_S J); have lM2 := (hM2.cell 0).trans (mc_L M); have lJ2 := (hJ2.cell 0).trans (mc_L J)) | (go_at_call 42; clear T3; refine (l01In_calls q 0 (M.S - 1) _).mono ?_; rintro e w' ⟨rfl, rfl⟩; rw [inS_model, hq]))
            (go_at_call 42; clear T4; refine (l01In_calls r 0 (J.S - 1) _).mono ?_; rintro e w' ⟨rfl, rfl⟩; rw [inS_model, hr])
            go_wp2
            go_ret
            exact ⟨ret_int Hc.out.symm, by first | exact hb4 | exact hb3 | exact hb2 | exact hb1⟩
          · have Hc : Hid (twoC M q J r = 2) := Lib.hid (by simp [twoC, hm, hj, hq, hr, hl])
            have T1 := Lib.hid trivial; have T2 := Lib.hid trivial; have T3 := Lib.hid trivial; have T4 := Lib.hid trivial
            go_enter Try.func45, Try.ntmps45
            go_wp2_with (first | (with_reducible show wpList _ _ _ _ _ _; refine wpList_load_blk rfl 28 (.tmp 4) rfl w.heap.size 0 rfl (mc M) _ (by first | exact hM4 | exact hM3 | exact hM2 | exact hM1 | exact hM0) 98 F2.out _ Try.underlying28 rfl size_mach ?_; rw [F1.out]) | (with_reducible show wpList _ _ _ _ _ _; refine wpList_load_blk_g rfl 28 (.tmp 6) rfl (w.heap.size + 1) 0 rfl (mc J) _ (by first | exact hJ4 | exact hJ3 | exact hJ2 | exact hJ1 | exact hJ0) 98 G2.out _ Try.underlying28 rfl size_mach ?_; rw [G1.out]) | (go_at_call 35; clear T1; refine (l01Is_calls M hok _).mono ?_; rintro e w1 ⟨rfl, hc1⟩; rw [hm]; have hM1 := hM0.keptAll hc1; have hJ1 := hJ0.keptAll hc1; have hb1 := below_step hb0 hc1; have sM1 := (hM1.cell 1).trans (mc_S M); have sJ1 := (hJ1.cell 1).trans (mc_S J); have lM1 := (hM1.cell 0).trans (mc_L M); have lJ1 := (hJ1.cell 0).trans (mc_L J)) | (go_at_call 35; clear T2; refine (l01Is_calls J hoj _).mono ?_; rintro e w2 ⟨rfl, hc2⟩; rw [hj]; have hM2 := hM1.keptAll hc2; have hJ2 := hJ1.keptAll hc2; have hb2 := below_step hb1 hc2; have sM2 := (hM2.cell 1).trans (mc_S M); have sJ2 := (hJ2.cell 1).trans (mc_S J); have lM2 := (hM2.cell 0).trans (mc_L M); have lJ2 := (hJ2.cell 0).trans (mc_L J)) | (go_at_call 42; clear T3; refine (l01In_calls q 0 (M.S - 1) _).mono ?_; rintro e w' ⟨rfl, rfl⟩; rw [inS_model, hq]))
            (go_at_call 42; clear T4; refine (l01In_calls r 0 (J.S - 1) _).mono ?_; rintro e w' ⟨rfl, rfl⟩; rw [inS_model, hr])
            go_wp2
            go_ret
            exact ⟨ret_int Hc.out.symm, by first | exact hb4 | exact hb3 | exact hb2 | exact hb1⟩
end Go.Proofs.Ytkkooafjpancoaa
