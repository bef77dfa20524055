/- Checks of two states: 'checkStates', 'l07Both', 'l07State'. Written by gen/genchs.py. · Checks of one state: 'l07State', 'checkPower'. · 'AreEqualAcross': plain data. -/
import Derived.Test.YtkkooafjpancoaaLawB
import Derived.Test.YtkkooafjpancoaaMachD
import Derived.Test.YtkkooafjpancoaaWordA0
import Derived.Test.YtkkooafjpancoaaAuP
import Derived.Laws.StructEq
namespace Go.Proofs.Ytkkooafjpancoaa
open Go.RowKit

def inS (M : Mach) (q : Int) : Bool := decide (0 ≤ q ∧ q < M.S)
def stC (M : Mach) (q : Int) : Int := if isMach M = true then (if inS M q = true then 0 else 2) else 1
def twoC (M : Mach) (q : Int) (J : Mach) (r : Int) : Int := if isMach M = true then (if isMach J = true then (if inS M q = true then (if inS J r = true then (if M.L = J.L then 0 else 2) else 2) else 2) else 1) else 1
theorem inS_model (M : Mach) (q : Int) : decide (0 ≤ q ∧ q ≤ M.S - 1) = inS M q := by
  unfold inS; exact decide_eq_decide.2 ⟨fun h => ⟨h.1, by omega⟩, fun h => ⟨h.1, by omega⟩⟩
theorem mach_small {M : Mach} (h : isMach M = true) : 2 ≤ M.L ∧ M.L ≤ 3 ∧ 1 ≤ M.S ∧ M.S ≤ 16 := by
  unfold isMach at h
  simp only [Bool.and_eq_true, decide_eq_true_eq] at h
  omega
theorem wrap_pred {s : Int} (h : 1 ≤ s ∧ s ≤ 16) : IntKind.i64.wrap (s - 1) = s - 1 := by simp [IntKind.wrap, IntKind.bits, IntKind.signed]; omega


set_option maxRecDepth 100000 in
set_option maxHeartbeats 1000000 in
theorem checkStates_calls (M J : Mach) (hok : M.Ok) (hoj : J.Ok) (q r : Int) (w : World) :
    Calls Try.prog 47 #[.agg (mc M), .int .i64 q, .agg (mc J), .int .i64 r] w fun e w' => e = .returned (.int .i64 (twoC M q J r)) ∧ Below w.heap.size w w' := by
  have F1 : Hid (cut (mc M) 0 98 = mc M) := Lib.hid (cut_all _ _ (mc_size hok))
  have F2 : Hid (0 + 98 ≤ (mc M).size) := Lib.hid (by rw [mc_size hok]; omega)
  have G1 : Hid (cut (mc J) 0 98 = mc J) := Lib.hid (cut_all _ _ (mc_size hoj))
  have G2 : Hid (0 + 98 ≤ (mc J).size) := Lib.hid (by rw [mc_size hoj]; omega)
  have hM0 : Blk ((w.alloc (.cells (mc M) 28)).alloc (.cells (mc J) 28)) w.heap.size (mc M) 28 := (Blk.new w _ _).alloc _
  have hJ0 : Blk ((w.alloc (.cells (mc M) 28)).alloc (.cells (mc J) 28)) (w.heap.size + 1) (mc J) 28 := Blk.new_at _ _ _ _ (by simp)
  have hb0 : Below w.heap.size w ((w.alloc (.cells (mc M) 28)).alloc (.cells (mc J) 28)) := by (repeat (first | exact Below.refl _ _ | refine below_drew' ?_ | refine below_drewN' ?_ _ | refine below_alloc' ?_ _ | refine below_set' ?_ (by (try simp); (try omega)) _ | refine below_step ?_ (by assumption)))
  have sM0 := (hM0.cell 1).trans (mc_S M)
  have sJ0 := (hJ0.cell 1).trans (mc_S J)
  have lM0 := (hM0.cell 0).trans (mc_L M)
  have lJ0 := (hJ0.cell 0).trans (mc_L J)
  cases hm : isMach M
  · have Hc : Hid (twoC M q J r = 1) := Lib.hid (by simp [twoC, hm])
    have T1 := Lib.hid trivial; have T2 := Lib.hid trivial; have T3 := Lib.hid trivial; have T4 := Lib.hid trivial
    go_enter Try.func47, Try.ntmps47
    go_wp2_with (first | (with_reducible show wpList _ _ _ _ _ _; refine wpList_load_blk rfl 28 (.tmp 4) rfl w.heap.size 0 rfl (mc M) _ (by first | exact hM4 | exact hM3 | exact hM2 | exact hM1 | exact hM0) 98 F2.out _ Try.underlying28 rfl size_mach ?_; rw [F1.out]))
    (go_at_call 38; clear T1; refine (IsMachine_calls M hok _).mono ?_; rintro e w1 ⟨rfl, hc1⟩; rw [hm]; have hM1 := hM0.keptAll hc1; have hJ1 := hJ0.keptAll hc1; have hb1 := below_step hb0 hc1; have sM1 := (hM1.cell 1).trans (mc_S M); have sJ1 := (hJ1.cell 1).trans (mc_S J); have lM1 := (hM1.cell 0).trans (mc_L M); have lJ1 := (hJ1.cell 0).trans (mc_L J))
    go_wp2
    go_ret
    exact ⟨ret_int Hc.out.symm, by first | exact hb4 | exact hb3 | exact hb2 | exact hb1⟩
  · cases hj : isMach J
    · have Hc : Hid (twoC M q J r = 1) := Lib.hid (by simp [twoC, hm, hj])
      have T1 := Lib.hid trivial; have T2 := Lib.hid trivial; have T3 := Lib.hid trivial; have T4 := Lib.hid trivial
      go_enter Try.func47, Try.ntmps47
      go_wp2_with (first | (with_reducible show wpList _ _ _ _ _ _; refine wpList_load_blk rfl 28 (.tmp 4) rfl w.heap.size 0 rfl (mc M) _ (by first | exact hM4 | exact hM3 | exact hM2 | exact hM1 | exact hM0) 98 F2.out _ Try.underlying28 rfl size_mach ?_; rw [F1.out]) | (with_reducible show wpList _ _ _ _ _ _; refine wpList_load_blk_g rfl 28 (.tmp 6) rfl (w.heap.size + 1) 0 rfl (mc J) _ (by first | exact hJ4 | exact hJ3 | exact hJ2 | exact hJ1 | exact hJ0) 98 G2.out _ Try.underlying28 rfl size_mach ?_; rw [G1.out]) | (go_at_call 38; clear T1; refine (IsMachine_calls M hok _).mono ?_; rintro e w1 ⟨rfl, hc1⟩; rw [hm]; have hM1 := hM0.keptAll hc1; have hJ1 := hJ0.keptAll hc1; have hb1 := below_step hb0 hc1; have sM1 := (hM1.cell 1).trans (mc_S M); have sJ1 := (hJ1.cell 1).trans (mc_S J); have lM1 := (hM1.cell 0).trans (mc_L M); have lJ1 := (hJ1.cell 0).trans (mc_L J)))
      (go_at_call 38; clear T2; refine (IsMachine_calls J hoj _).mono ?_; rintro e w2 ⟨rfl, hc2⟩; rw [hj]; have hM2 := hM1.keptAll hc2; have hJ2 := hJ1.keptAll hc2; have hb2 := below_step hb1 hc2; have sM2 := (hM2.cell 1).trans (mc_S M); have sJ2 := (hJ2.cell 1).trans (mc_S J); have lM2 := (hM2.cell 0).trans (mc_L M); have lJ2 := (hJ2.cell 0).trans (mc_L J))
      go_wp2
      go_ret
      exact ⟨ret_int Hc.out.symm, by first | exact hb4 | exact hb3 | exact hb2 | exact hb1⟩
    · obtain ⟨mL2, mL3, mS1, mS16⟩ := mach_small hm
      obtain ⟨jL2, jL3, jS1, jS16⟩ := mach_small hj
      have wM := wrap_pred ⟨mS1, mS16⟩
      have wJ := wrap_pred ⟨jS1, jS16⟩
      cases hq : inS M q
      · have Hc : Hid (twoC M q J r = 2) := Lib.hid (by simp [twoC, hm, hj, hq])
        have T1 := Lib.hid trivial; have T2 := Lib.hid trivial; have T3 := Lib.hid trivial; have T4 := Lib.hid trivial
        go_enter Try.func47, Try.ntmps47
        go_wp2_with (first | (with_reducible show wpList _ _ _ _ _ _; refine wpList_load_blk rfl 28 (.tmp 4) rfl w.heap.size 0 rfl (mc M) _ (by first | exact hM4 | exact hM3 | exact hM2 | exact hM1 | exact hM0) 98 F2.out _ Try.underlying28 rfl size_mach ?_; rw [F1.out]) | (with_reducible show wpList _ _ _ _ _ _; refine wpList_load_blk_g rfl 28 (.tmp 6) rfl (w.heap.size + 1) 0 rfl (mc J) _ (by first | exact hJ4 | exact hJ3 | exact hJ2 | exact hJ1 | exact hJ0) 98 G2.out _ Try.underlying28 rfl size_mach ?_; rw [G1.out]) | (go_at_call 38; clear T1; refine (IsMachine_calls M hok _).mono ?_; rintro e w1 ⟨rfl, hc1⟩; rw [hm]; have hM1 := hM0.keptAll hc1; have hJ1 := hJ0.keptAll hc1; have hb1 := below_step hb0 hc1; have sM1 := (hM1.cell 1).trans (mc_S M); have sJ1 := (hJ1.cell 1).trans (mc_S J); have lM1 := (hM1.cell 0).trans (mc_L M); have lJ1 := (hJ1.cell 0).trans (mc_L J)) | (go_at_call 38; clear T2; refine (IsMachine_calls J hoj _).mono ?_; rintro e w2 ⟨rfl, hc2⟩; rw [hj]; have hM2 := hM1.keptAll hc2; have hJ2 := hJ1.keptAll hc2; have hb2 := below_step hb1 hc2; have sM2 := (hM2.cell 1).trans (mc_S M); have sJ2 := (hJ2.cell 1).trans (mc_S J); have lM2 := (hM2.cell 0).trans (mc_L M); have lJ2 := (hJ2.cell 0).trans (mc_L J)))
        (go_at_call 73; clear T3; refine (isState_calls M q _).mono ?_; rintro e w3 ⟨rfl, hc3⟩; rw [show decide (0 ≤ q ∧ q < M.S) = inS M q from rfl, hq]; have hM3 := hM2.keptAll hc3; have hJ3 := hJ2.keptAll hc3; have hb3 := below_step hb2 hc3; have sM3 := (hM3.cell 1).trans (mc_S M); have sJ3 := (hJ3.cell 1).trans (mc_S J); have lM3 := (hM3.cell 0).trans (mc_L M); have lJ3 := (hJ3.cell 0).trans (mc_L J))
        go_wp2
        go_ret
        exact ⟨ret_int Hc.out.symm, by first | exact hb4 | exact hb3 | exact hb2 | exact hb1⟩
      · cases hr : inS J r
        · have Hc : Hid (twoC M q J r = 2) := Lib.hid (by simp [twoC, hm, hj, hq, hr])
          have T1 := Lib.hid trivial; have T2 := Lib.hid trivial; have T3 := Lib.hid trivial; have T4 := Lib.hid trivial
          go_enter Try.func47, Try.ntmps47
          go_wp2_with (first | (with_reducible show wpList _ _ _ _ _ _; refine wpList_load_blk rfl 28 (.tmp 4) rfl w.heap.size 0 rfl (mc M) _ (by first | exact hM4 | exact hM3 | exact hM2 | exact hM1 | exact hM0) 98 F2.out _ Try.underlying28 rfl size_mach ?_; rw [F1.out]) | (with_reducible show wpList _ _ _ _ _ _; refine wpList_load_blk_g rfl 28 (.tmp 6) rfl (w.heap.size + 1) 0 rfl (mc J) _ (by first | exact hJ4 | exact hJ3 | exact hJ2 | exact hJ1 | exact hJ0) 98 G2.out _ Try.underlying28 rfl size_mach ?_; rw [G1.out]) | (go_at_call 38; clear T1; refine (IsMachine_calls M hok _).mono ?_; rintro e w1 ⟨rfl, hc1⟩; rw [hm]; have hM1 := hM0.keptAll hc1; have hJ1 := hJ0.keptAll hc1; have hb1 := below_step hb0 hc1; have sM1 := (hM1.cell 1).trans (mc_S M); have sJ1 := (hJ1.cell 1).trans (mc_S J); have lM1 := (hM1.cell 0).trans (mc_L M); have lJ1 := (hJ1.cell 0).trans (mc_L J)) | (go_at_call 38; clear T2; refine (IsMachine_calls J hoj _).mono ?_; rintro e w2 ⟨rfl, hc2⟩; rw [hj]; have hM2 := hM1.keptAll hc2; have hJ2 := hJ1.keptAll hc2; have hb2 := below_step hb1 hc2; have sM2 := (hM2.cell 1).trans (mc_S M); have sJ2 := (hJ2.cell 1).trans (mc_S J); have lM2 := (hM2.cell 0).trans (mc_L M); have lJ2 := (hJ2.cell 0).trans (mc_L J)) | (go_at_call 73; clear T3; refine (isState_calls M q _).mono ?_; rintro e w3 ⟨rfl, hc3⟩; rw [show decide (0 ≤ q ∧ q < M.S) = inS M q from rfl, hq]; have hM3 := hM2.keptAll hc3; have hJ3 := hJ2.keptAll hc3; have hb3 := below_step hb2 hc3; have sM3 := (hM3.cell 1).trans (mc_S M); have sJ3 := (hJ3.cell 1).trans (mc_S J); have lM3 := (hM3.cell 0).trans (mc_L M); have lJ3 := (hJ3.cell 0).trans (mc_L J)))
          (go_at_call 73; clear T4; refine (isState_calls J r _).mono ?_; rintro e w4 ⟨rfl, hc4⟩; rw [show decide (0 ≤ r ∧ r < J.S) = inS J r from rfl, hr]; have hM4 := hM3.keptAll hc4; have hJ4 := hJ3.keptAll hc4; have hb4 := below_step hb3 hc4; have sM4 := (hM4.cell 1).trans (mc_S M); have sJ4 := (hJ4.cell 1).trans (mc_S J); have lM4 := (hM4.cell 0).trans (mc_L M); have lJ4 := (hJ4.cell 0).trans (mc_L J))
          go_wp2
          go_ret
          exact ⟨ret_int Hc.out.symm, by first | exact hb4 | exact hb3 | exact hb2 | exact hb1⟩
        · by_cases hl : M.L = J.L
          · have Hc : Hid (twoC M q J r = 0) := Lib.hid (by simp [twoC, hm, hj, hq, hr, hl])
            have T1 := Lib.hid trivial; have T2 := Lib.hid trivial; have T3 := Lib.hid trivial; have T4 := Lib.hid trivial
            go_enter Try.func47, Try.ntmps47
            go_wp2_with (first | (with_reducible show wpList _ _ _ _ _ _; refine wpList_load_blk rfl 28 (.tmp 4) rfl w.heap.size 0 rfl (mc M) _ (by first | exact hM4 | exact hM3 | exact hM2 | exact hM1 | exact hM0) 98 F2.out _ Try.underlying28 rfl size_mach ?_; rw [F1.out]) | (with_reducible show wpList _ _ _ _ _ _; refine wpList_load_blk_g rfl 28 (.tmp 6) rfl (w.heap.size + 1) 0 rfl (mc J) _ (by first | exact hJ4 | exact hJ3 | exact hJ2 | exact hJ1 | exact hJ0) 98 G2.out _ Try.underlying28 rfl size_mach ?_; rw [G1.out]) | (go_at_call 38; clear T1; refine (IsMachine_calls M hok _).mono ?_; rintro e w1 ⟨rfl, hc1⟩; rw [hm]; have hM1 := hM0.keptAll hc1; have hJ1 := hJ0.keptAll hc1; have hb1 := below_step hb0 hc1; have sM1 := (hM1.cell 1).trans (mc_S M); have sJ1 := (hJ1.cell 1).trans (mc_S J); have lM1 := (hM1.cell 0).trans (mc_L M); have lJ1 := (hJ1.cell 0).trans (mc_L J)) | (go_at_call 38; clear T2; refine (IsMachine_calls J hoj _).mono ?_; rintro e w2 ⟨rfl, hc2⟩; rw [hj]; have hM2 := hM1.keptAll hc2; have hJ2 := hJ1.keptAll hc2; have hb2 := below_step hb1 hc2; have sM2 := (hM2.cell 1).trans (mc_S M); have sJ2 := (hJ2.cell 1).trans (mc_S J); have lM2 := (hM2.cell 0).trans (mc_L M); have lJ2 := (hJ2.cell 0).trans (mc_L J)) | (go_at_call 73; clear T3; refine (isState_calls M q _).mono ?_; rintro e w3 ⟨rfl, hc3⟩; rw [show decide (0 ≤ q ∧ q < M.S) = inS M q from rfl, hq]; have hM3 := hM2.keptAll hc3; have hJ3 := hJ2.keptAll hc3; have hb3 := below_step hb2 hc3; have sM3 := (hM3.cell 1).trans (mc_S M); have sJ3 := (hJ3.cell 1).trans (mc_S J); have lM3 := (hM3.cell 0).trans (mc_L M); have lJ3 := (hJ3.cell 0).trans (mc_L J)))
            (go_at_call 73; clear T4; refine (isState_calls J r _).mono ?_; rintro e w4 ⟨rfl, hc4⟩; rw [show decide (0 ≤ r ∧ r < J.S) = inS J r from rfl, hr]; have hM4 := hM3.keptAll hc4; have hJ4 := hJ3.keptAll hc4; have hb4 := below_step hb3 hc4; have sM4 := (hM4.cell 1).trans (mc_S M); have sJ4 := (hJ4.cell 1).trans (mc_S J); have lM4 := (hM4.cell 0).trans (mc_L M); have lJ4 := (hJ4.cell 0).trans (mc_L J))
            go_wp2
            go_ret
            exact ⟨ret_int Hc.out.symm, by first | exact hb4 | exact hb3 | exact hb2 | exact hb1⟩
          · have Hc : Hid (twoC M q J r = 2) := Lib.hid (by simp [twoC, hm, hj, hq, hr, hl])
            have T1 := Lib.hid trivial; have T2 := Lib.hid trivial; have T3 := Lib.hid trivial; have T4 := Lib.hid trivial
            go_enter Try.func47, Try.ntmps47
            go_wp2_with (first | (with_reducible show wpList _ _ _ _ _ _; refine wpList_load_blk rfl 28 (.tmp 4) rfl w.heap.size 0 rfl (mc M) _ (by first | exact hM4 | exact hM3 | exact hM2 | exact hM1 | exact hM0) 98 F2.out _ Try.underlying28 rfl size_mach ?_; rw [F1.out]) | (with_reducible show wpList _ _ _ _ _ _; refine wpList_load_blk_g rfl 28 (.tmp 6) rfl (w.heap.size + 1) 0 rfl (mc J) _ (by first | exact hJ4 | exact hJ3 | exact hJ2 | exact hJ1 | exact hJ0) 98 G2.out _ Try.underlying28 rfl size_mach ?_; rw [G1.out]) | (go_at_call 38; clear T1; refine (IsMachine_calls M hok _).mono ?_; rintro e w1 ⟨rfl, hc1⟩; rw [hm]; have hM1 := hM0.keptAll hc1; have hJ1 := hJ0.keptAll hc1; have hb1 := below_step hb0 hc1; have sM1 := (hM1.cell 1).trans (mc_S M); have sJ1 := (hJ1.cell 1).trans (mc_S J); have lM1 := (hM1.cell 0).trans (mc_L M); have lJ1 := (hJ1.cell 0).trans (mc_L J)) | (go_at_call 38; clear T2; refine (IsMachine_calls J hoj _).mono ?_; rintro e w2 ⟨rfl, hc2⟩; rw [hj]; have hM2 := hM1.keptAll hc2; have hJ2 := hJ1.keptAll hc2; have hb2 := below_step hb1 hc2; have sM2 := (hM2.cell 1).trans (mc_S M); have sJ2 := (hJ2.cell 1).trans (mc_S J); have lM2 := (hM2.cell 0).trans (mc_L M); have lJ2 := (hJ2.cell 0).trans (mc_L J)) | (go_at_call 73; clear T3; refine (isState_calls M q _).mono ?_; rintro e w3 ⟨rfl, hc3⟩; rw [show decide (0 ≤ q ∧ q < M.S) = inS M q from rfl, hq]; have hM3 := hM2.keptAll hc3; have hJ3 := hJ2.keptAll hc3; have hb3 := below_step hb2 hc3; have sM3 := (hM3.cell 1).trans (mc_S M); have sJ3 := (hJ3.cell 1).trans (mc_S J); have lM3 := (hM3.cell 0).trans (mc_L M); have lJ3 := (hJ3.cell 0).trans (mc_L J)))
            (go_at_call 73; clear T4; refine (isState_calls J r _).mono ?_; rintro e w4 ⟨rfl, hc4⟩; rw [show decide (0 ≤ r ∧ r < J.S) = inS J r from rfl, hr]; have hM4 := hM3.keptAll hc4; have hJ4 := hJ3.keptAll hc4; have hb4 := below_step hb3 hc4; have sM4 := (hM4.cell 1).trans (mc_S M); have sJ4 := (hJ4.cell 1).trans (mc_S J); have lM4 := (hM4.cell 0).trans (mc_L M); have lJ4 := (hJ4.cell 0).trans (mc_L J))
            go_wp2
            go_ret
            exact ⟨ret_int Hc.out.symm, by first | exact hb4 | exact hb3 | exact hb2 | exact hb1⟩

set_option maxRecDepth 100000 in
set_option maxHeartbeats 1000000 in
theorem l07Both_calls (M J : Mach) (hok : M.Ok) (hoj : J.Ok) (q r : Int) (w : World) :
    Calls Try.prog 45 #[.agg (mc M), .int .i64 q, .agg (mc J), .int .i64 r] w fun e w' => e = .returned (.int .i64 (twoC M q J r)) ∧ Below w.heap.size w w' := by
  have F1 : Hid (cut (mc M) 0 98 = mc M) := Lib.hid (cut_all _ _ (mc_size hok))
  have F2 : Hid (0 + 98 ≤ (mc M).size) := Lib.hid (by rw [mc_size hok]; omega)
  have G1 : Hid (cut (mc J) 0 98 = mc J) := Lib.hid (cut_all _ _ (mc_size hoj))
  have G2 : Hid (0 + 98 ≤ (mc J).size) := Lib.hid (by rw [mc_size hoj]; omega)
  have hM0 : Blk ((w.alloc (.cells (mc M) 28)).alloc (.cells (mc J) 28)) w.heap.size (mc M) 28 := (Blk.new w _ _).alloc _
  have hJ0 : Blk ((w.alloc (.cells (mc M) 28)).alloc (.cells (mc J) 28)) (w.heap.size + 1) (mc J) 28 := Blk.new_at _ _ _ _ (by simp)
  have hb0 : Below w.heap.size w ((w.alloc (.cells (mc M) 28)).alloc (.cells (mc J) 28)) := by (repeat (first | exact Below.refl _ _ | refine below_drew' ?_ | refine below_drewN' ?_ _ | refine below_alloc' ?_ _ | refine below_set' ?_ (by (try simp); (try omega)) _ | refine below_step ?_ (by assumption)))
  have sM0 := (hM0.cell 1).trans (mc_S M)
  have sJ0 := (hJ0.cell 1).trans (mc_S J)
  have lM0 := (hM0.cell 0).trans (mc_L M)
  have lJ0 := (hJ0.cell 0).trans (mc_L J)
  cases hm : isMach M
  · have Hc : Hid (twoC M q J r = 1) := Lib.hid (by simp [twoC, hm])
    have T1 := Lib.hid trivial; have T2 := Lib.hid trivial; have T3 := Lib.hid trivial; have T4 := Lib.hid trivial
    go_enter Try.func45, Try.ntmps45
    go_wp2_with (first | (with_reducible show wpList _ _ _ _ _ _; refine wpList_load_blk rfl 28 (.tmp 4) rfl w.heap.size 0 rfl (mc M) _ (by first | exact hM4 | exact hM3 | exact hM2 | exact hM1 | exact hM0) 98 F2.out _ Try.underlying28 rfl size_mach ?_; rw [F1.out]))
    (go_at_call 35; clear T1; refine (l01Is_calls M hok _).mono ?_; rintro e w1 ⟨rfl, hc1⟩; rw [hm]; have hM1 := hM0.keptAll hc1; have hJ1 := hJ0.keptAll hc1; have hb1 := below_step hb0 hc1; have sM1 := (hM1.cell 1).trans (mc_S M); have sJ1 := (hJ1.cell 1).trans (mc_S J); have lM1 := (hM1.cell 0).trans (mc_L M); have lJ1 := (hJ1.cell 0).trans (mc_L J))
    go_wp2
    go_ret
    exact ⟨ret_int Hc.out.symm, by first | exact hb4 | exact hb3 | exact hb2 | exact hb1⟩
  · cases hj : isMach J
    · have Hc : Hid (twoC M q J r = 1) := Lib.hid (by simp [twoC, hm, hj])
      have T1 := Lib.hid trivial; have T2 := Lib.hid trivial; have T3 := Lib.hid trivial; have T4 := Lib.hid trivial
      go_enter Try.func45, Try.ntmps45
      go_wp2_with (first | (with_reducible show wpList _ _ _ _ _ _; refine wpList_load_blk rfl 28 (.tmp 4) rfl w.heap.size 0 rfl (mc M) _ (by first | exact hM4 | exact hM3 | exact hM2 | exact hM1 | exact hM0) 98 F2.out _ Try.underlying28 rfl size_mach ?_; rw [F1.out]) | (with_reducible show wpList _ _ _ _ _ _; refine wpList_load_blk_g rfl 28 (.tmp 6) rfl (w.heap.size + 1) 0 rfl (mc J) _ (by first | exact hJ4 | exact hJ3 | exact hJ2 | exact hJ1 | exact hJ0) 98 G2.out _ Try.underlying28 rfl size_mach ?_; rw [G1.out]) | (go_at_call 35; clear T1; refine (l01Is_calls M hok _).mono ?_; rintro e w1 ⟨rfl, hc1⟩; rw [hm]; have hM1 := hM0.keptAll hc1; have hJ1 := hJ0.keptAll hc1; have hb1 := below_step hb0 hc1; have sM1 := (hM1.cell 1).trans (mc_S M); have sJ1 := (hJ1.cell 1).trans (mc_S J); have lM1 := (hM1.cell 0).trans (mc_L M); have lJ1 := (hJ1.cell 0).trans (mc_L J)))
      (go_at_call 35; clear T2; refine (l01Is_calls J hoj _).mono ?_; rintro e w2 ⟨rfl, hc2⟩; rw [hj]; have hM2 := hM1.keptAll hc2; have hJ2 := hJ1.keptAll hc2; have hb2 := below_step hb1 hc2; have sM2 := (hM2.cell 1).trans (mc_S M); have sJ2 := (hJ2.cell 1).trans (mc_S J); have lM2 := (hM2.cell 0).trans (mc_L M); have lJ2 := (hJ2.cell 0).trans (mc_L J))
      go_wp2
      go_ret
      exact ⟨ret_int Hc.out.symm, by first | exact hb4 | exact hb3 | exact hb2 | exact hb1⟩
    · obtain ⟨mL2, mL3, mS1, mS16⟩ := mach_small hm
      obtain ⟨jL2, jL3, jS1, jS16⟩ := mach_small hj
      have wM := wrap_pred ⟨mS1, mS16⟩
      have wJ := wrap_pred ⟨jS1, jS16⟩
      cases hq : inS M q
      · have Hc : Hid (twoC M q J r = 2) := Lib.hid (by simp [twoC, hm, hj, hq])
        have T1 := Lib.hid trivial; have T2 := Lib.hid trivial; have T3 := Lib.hid trivial; have T4 := Lib.hid trivial
        go_enter Try.func45, Try.ntmps45
        go_wp2_with (first | (with_reducible show wpList _ _ _ _ _ _; refine wpList_load_blk rfl 28 (.tmp 4) rfl w.heap.size 0 rfl (mc M) _ (by first | exact hM4 | exact hM3 | exact hM2 | exact hM1 | exact hM0) 98 F2.out _ Try.underlying28 rfl size_mach ?_; rw [F1.out]) | (with_reducible show wpList _ _ _ _ _ _; refine wpList_load_blk_g rfl 28 (.tmp 6) rfl (w.heap.size + 1) 0 rfl (mc J) _ (by first | exact hJ4 | exact hJ3 | exact hJ2 | exact hJ1 | exact hJ0) 98 G2.out _ Try.underlying28 rfl size_mach ?_; rw [G1.out]) | (go_at_call 35; clear T1; refine (l01Is_calls M hok _).mono ?_; rintro e w1 ⟨rfl, hc1⟩; rw [hm]; have hM1 := hM0.keptAll hc1; have hJ1 := hJ0.keptAll hc1; have hb1 := below_step hb0 hc1; have sM1 := (hM1.cell 1).trans (mc_S M); have sJ1 := (hJ1.cell 1).trans (mc_S J); have lM1 := (hM1.cell 0).trans (mc_L M); have lJ1 := (hJ1.cell 0).trans (mc_L J)) | (go_at_call 35; clear T2; refine (l01Is_calls J hoj _).mono ?_; rintro e w2 ⟨rfl, hc2⟩; rw [hj]; have hM2 := hM1.keptAll hc2; have hJ2 := hJ1.keptAll hc2; have hb2 := below_step hb1 hc2; have sM2 := (hM2.cell 1).trans (mc_S M); have sJ2 := (hJ2.cell 1).trans (mc_S J); have lM2 := (hM2.cell 0).trans (mc_L M); have lJ2 := (hJ2.cell 0).trans (mc_L J)))
        (go_at_call 42; clear T3; refine (l01In_calls q 0 (M.S - 1) _).mono ?_; rintro e w' ⟨rfl, rfl⟩; rw [inS_model, hq])
        go_wp2
        go_ret
        exact ⟨ret_int Hc.out.symm, by first | exact hb4 | exact hb3 | exact hb2 | exact hb1⟩
      · cases hr : inS J r
        · have Hc : Hid (twoC M q J r = 2) := Lib.hid (by simp [twoC, hm, hj, hq, hr])
          have T1 := Lib.hid trivial; have T2 := Lib.hid trivial; have T3 := Lib.hid trivial; have T4 := Lib.hid trivial
          go_enter Try.func45, Try.ntmps45
          go_wp2_with (first | (with_reducible show wpList _ _ _ _ _ _; refine wpList_load_blk rfl 28 (.tmp 4) rfl w.heap.size 0 rfl (mc M) _ (by first | exact hM4 | exact hM3 | exact hM2 | exact hM1 | exact hM0) 98 F2.out _ Try.underlying28 rfl size_mach ?_; rw [F1.out]) | (with_reducible show wpList _ _ _ _ _ _; refine wpList_load_blk_g rfl 28 (.tmp 6) rfl (w.heap.size + 1) 0 rfl (mc J) _ (by first | exact hJ4 | exact hJ3 | exact hJ2 | exact hJ1 | exact hJ0) 98 G2.out _ Try.underlying28 rfl size_mach ?_; rw [G1.out]) | (go_at_call 35; clear T1; refine (l01Is_calls M hok _).mono ?_; rintro e w1 ⟨rfl, hc1⟩; rw [hm]; have hM1 := hM0.keptAll hc1; have hJ1 := hJ0.keptAll hc1; have hb1 := below_step hb0 hc1; have sM1 := (hM1.cell 1).trans (mc_S M); have sJ1 := (hJ1.cell 1).trans (mc_S J); have lM1 := (hM1.cell 0).trans (mc_L M); have lJ1 := (hJ1.cell 0).trans (mc_L J)) | (go_at_call 35; clear T2; refine (l01Is_calls J hoj _).mono ?_; rintro e w2 ⟨rfl, hc2⟩; rw [hj]; have hM2 := hM1.keptAll hc2; have hJ2 := hJ1.keptAll hc2; have hb2 := below_step hb1 hc2; have sM2 := (hM2.cell 1).trans (mc_S M); have sJ2 := (hJ2.cell 1).trans (mc_S J); have lM2 := (hM2.cell 0).trans (mc_L M); have lJ2 := (hJ2.cell 0).trans (mc_L J)) | (go_at_call 42; clear T3; refine (l01In_calls q 0 (M.S - 1) _).mono ?_; rintro e w' ⟨rfl, rfl⟩; rw [inS_model, hq]))
          (go_at_call 42; clear T4; refine (l01In_calls r 0 (J.S - 1) _).mono ?_; rintro e w' ⟨rfl, rfl⟩; rw [inS_model, hr])
          go_wp2
          go_ret
          exact ⟨ret_int Hc.out.symm, by first | exact hb4 | exact hb3 | exact hb2 | exact hb1⟩
        · by_cases hl : M.L = J.L
          · have Hc : Hid (twoC M q J r = 0) := Lib.hid (by simp [twoC, hm, hj, hq, hr, hl])
            have T1 := Lib.hid trivial; have T2 := Lib.hid trivial; have T3 := Lib.hid trivial; have T4 := Lib.hid trivial
            go_enter Try.func45, Try.ntmps45
            go_wp2_with (first | (with_reducible show wpList _ _ _ _ _ _; refine wpList_load_blk rfl 28 (.tmp 4) rfl w.heap.size 0 rfl (mc M) _ (by first | exact hM4 | exact hM3 | exact hM2 | exact hM1 | exact hM0) 98 F2.out _ Try.underlying28 rfl size_mach ?_; rw [F1.out]) | (with_reducible show wpList _ _ _ _ _ _; refine wpList_load_blk_g rfl 28 (.tmp 6) rfl (w.heap.size + 1) 0 rfl (mc J) _ (by first | exact hJ4 | exact hJ3 | exact hJ2 | exact hJ1 | exact hJ0) 98 G2.out _ Try.underlying28 rfl size_mach ?_; rw [G1.out]) | (go_at_call 35; clear T1; refine (l01Is_calls M hok _).mono ?_; rintro e w1 ⟨rfl, hc1⟩; rw [hm]; have hM1 := hM0.keptAll hc1; have hJ1 := hJ0.keptAll hc1; have hb1 := below_step hb0 hc1; have sM1 := (hM1.cell 1).trans (mc_S M); have sJ1 := (hJ1.cell 1).trans (mc_S J); have lM1 := (hM1.cell 0).trans (mc_L M); have lJ1 := (hJ1.cell 0).trans (mc_L J)) | (go_at_call 35; clear T2; refine (l01Is_calls J hoj _).mono ?_; rintro e w2 ⟨rfl, hc2⟩; rw [hj]; have hM2 := hM1.keptAll hc2; have hJ2 := hJ1.keptAll hc2; have hb2 := below_step hb1 hc2; have sM2 := (hM2.cell 1).trans (mc_S M); have sJ2 := (hJ2.cell 1).trans (mc_S J); have lM2 := (hM2.cell 0).trans (mc_L M); have lJ2 := (hJ2.cell 0).trans (mc_L J)) | (go_at_call 42; clear T3; refine (l01In_calls q 0 (M.S - 1) _).mono ?_; rintro e w' ⟨rfl, rfl⟩; rw [inS_model, hq]))
            (go_at_call 42; clear T4; refine (l01In_calls r 0 (J.S - 1) _).mono ?_; rintro e w' ⟨rfl, rfl⟩; rw [inS_model, hr])
            go_wp2
            go_ret
            exact ⟨ret_int Hc.out.symm, by first | exact hb4 | exact hb3 | exact hb2 | exact hb1⟩
          · have Hc : Hid (twoC M q J r = 2) := Lib.hid (by simp [twoC, hm, hj, hq, hr, hl])
            have T1 := Lib.hid trivial; have T2 := Lib.hid trivial; have T3 := Lib.hid trivial; have T4 := Lib.hid trivial
            go_enter Try.func45, Try.ntmps45
            go_wp2_with (first | (with_reducible show wpList _ _ _ _ _ _; refine wpList_load_blk rfl 28 (.tmp 4) rfl w.heap.size 0 rfl (mc M) _ (by first | exact hM4 | exact hM3 | exact hM2 | exact hM1 | exact hM0) 98 F2.out _ Try.underlying28 rfl size_mach ?_; rw [F1.out]) | (with_reducible show wpList _ _ _ _ _ _; refine wpList_load_blk_g rfl 28 (.tmp 6) rfl (w.heap.size + 1) 0 rfl (mc J) _ (by first | exact hJ4 | exact hJ3 | exact hJ2 | exact hJ1 | exact hJ0) 98 G2.out _ Try.underlying28 rfl size_mach ?_; rw [G1.out]) | (go_at_call 35; clear T1; refine (l01Is_calls M hok _).mono ?_; rintro e w1 ⟨rfl, hc1⟩; rw [hm]; have hM1 := hM0.keptAll hc1; have hJ1 := hJ0.keptAll hc1; have hb1 := below_step hb0 hc1; have sM1 := (hM1.cell 1).trans (mc_S M); have sJ1 := (hJ1.cell 1).trans (mc_S J); have lM1 := (hM1.cell 0).trans (mc_L M); have lJ1 := (hJ1.cell 0).trans (mc_L J)) | (go_at_call 35; clear T2; refine (l01Is_calls J hoj _).mono ?_; rintro e w2 ⟨rfl, hc2⟩; rw [hj]; have hM2 := hM1.keptAll hc2; have hJ2 := hJ1.keptAll hc2; have hb2 := below_step hb1 hc2; have sM2 := (hM2.cell 1).trans (mc_S M); have sJ2 := (hJ2.cell 1).trans (mc_S J); have lM2 := (hM2.cell 0).trans (mc_L M); have lJ2 := (hJ2.cell 0).trans (mc_L J)) | (go_at_call 42; clear T3; refine (l01In_calls q 0 (M.S - 1) _).mono ?_; rintro e w' ⟨rfl, rfl⟩; rw [inS_model, hq]))
            (go_at_call 42; clear T4; refine (l01In_calls r 0 (J.S - 1) _).mono ?_; rintro e w' ⟨rfl, rfl⟩; rw [inS_model, hr])
            go_wp2
            go_ret
            exact ⟨ret_int Hc.out.symm, by first | exact hb4 | exact hb3 | exact hb2 | exact hb1⟩
end Go.Proofs.Ytkkooafjpancoaa

namespace Go.Proofs.Ytkkooafjpancoaa
open Go.RowKit

def pwC (M : Mach) (q n least : Int) : Int := if isMach M = true then (if inS M q = true then (if least ≤ n ∧ n ≤ 16 then 0 else 2) else 2) else 1

set_option maxRecDepth 100000 in
set_option maxHeartbeats 1000000 in
theorem l07State_calls (M : Mach) (hok : M.Ok) (q : Int) (w : World) :
    Calls Try.prog 51 #[.agg (mc M), .int .i64 q] w fun e w' => e = .returned (.int .i64 (stC M q)) ∧ Below w.heap.size w w' := by
  have F1 : Hid (cut (mc M) 0 98 = mc M) := Lib.hid (cut_all _ _ (mc_size hok)); have F2 : Hid (0 + 98 ≤ (mc M).size) := Lib.hid (by rw [mc_size hok]; omega)
  have hB : Blk (w.alloc (.cells (mc M) 28)) w.heap.size (mc M) 28 := Blk.new w _ _
  have hb0 : Below w.heap.size w (w.alloc (.cells (mc M) 28)) := by (repeat (first | exact Below.refl _ _ | refine below_drew' ?_ | refine below_drewN' ?_ _ | refine below_alloc' ?_ _ | refine below_set' ?_ (by (try simp); (try omega)) _ | refine below_step ?_ (by assumption)))
  cases hm : isMach M
  · have Hc : Hid (stC M q = 1) := Lib.hid (by simp [stC, hm])
    go_enter Try.func51, Try.ntmps51
    go_wp2_with (first | (with_reducible show wpList _ _ _ _ _ _; refine wpList_load_blk rfl 28 (.tmp 2) rfl w.heap.size 0 rfl (mc M) _ (hB) 98 F2.out _ Try.underlying28 rfl size_mach ?_; rw [F1.out]) | (go_at_call 35; refine (l01Is_calls M hok _).mono ?_; rintro e w1 ⟨rfl, hc1⟩; rw [hm]; have hb1 := below_step hb0 hc1))
    go_ret
    exact ⟨ret_int Hc.out.symm, hb1⟩
  · obtain ⟨mL2, mL3, mS1, mS16⟩ := mach_small hm
    have wM := wrap_pred ⟨mS1, mS16⟩
    cases hq : inS M q
    · have Hc : Hid (stC M q = 2) := Lib.hid (by simp [stC, hm, hq])
      go_enter Try.func51, Try.ntmps51
      go_wp2_with (first | (with_reducible show wpList _ _ _ _ _ _; refine wpList_load_blk rfl 28 (.tmp 2) rfl w.heap.size 0 rfl (mc M) _ (hB) 98 F2.out _ Try.underlying28 rfl size_mach ?_; rw [F1.out]) | (go_at_call 35; refine (l01Is_calls M hok _).mono ?_; rintro e w1 ⟨rfl, hc1⟩; rw [hm]; have hb1 := below_step hb0 hc1; have sM := ((hB.keptAll hc1).cell 1).trans (mc_S M)) | (go_at_call 42; refine (l01In_calls q 0 (M.S - 1) _).mono ?_; rintro e w' ⟨rfl, rfl⟩; rw [inS_model, hq]))
      go_ret
      exact ⟨ret_int Hc.out.symm, hb1⟩
    · have Hc : Hid (stC M q = 0) := Lib.hid (by simp [stC, hm, hq])
      go_enter Try.func51, Try.ntmps51
      go_wp2_with (first | (with_reducible show wpList _ _ _ _ _ _; refine wpList_load_blk rfl 28 (.tmp 2) rfl w.heap.size 0 rfl (mc M) _ (hB) 98 F2.out _ Try.underlying28 rfl size_mach ?_; rw [F1.out]) | (go_at_call 35; refine (l01Is_calls M hok _).mono ?_; rintro e w1 ⟨rfl, hc1⟩; rw [hm]; have hb1 := below_step hb0 hc1; have sM := ((hB.keptAll hc1).cell 1).trans (mc_S M)) | (go_at_call 42; refine (l01In_calls q 0 (M.S - 1) _).mono ?_; rintro e w' ⟨rfl, rfl⟩; rw [inS_model, hq]))
      go_ret
      exact ⟨ret_int Hc.out.symm, hb1⟩

set_option maxRecDepth 100000 in
set_option maxHeartbeats 1000000 in
theorem checkPower_calls (M : Mach) (hok : M.Ok) (q n least : Int) (w : World) :
    Calls Try.prog 55 #[.agg (mc M), .int .i64 q, .int .i64 n, .int .i64 least] w fun e w' => e = .returned (.int .i64 (pwC M q n least)) ∧ Below w.heap.size w w' := by
  have F1 : Hid (cut (mc M) 0 98 = mc M) := Lib.hid (cut_all _ _ (mc_size hok)); have F2 : Hid (0 + 98 ≤ (mc M).size) := Lib.hid (by rw [mc_size hok]; omega)
  have hB : Blk (w.alloc (.cells (mc M) 28)) w.heap.size (mc M) 28 := Blk.new w _ _
  have hb0 : Below w.heap.size w (w.alloc (.cells (mc M) 28)) := by (repeat (first | exact Below.refl _ _ | refine below_drew' ?_ | refine below_drewN' ?_ _ | refine below_alloc' ?_ _ | refine below_set' ?_ (by (try simp); (try omega)) _ | refine below_step ?_ (by assumption)))
  cases hm : isMach M
  · have Hc : Hid (pwC M q n least = 1) := Lib.hid (by simp [pwC, hm])
    go_enter Try.func55, Try.ntmps55
    go_wp2_with (first | (with_reducible show wpList _ _ _ _ _ _; refine wpList_load_blk rfl 28 (.tmp 4) rfl w.heap.size 0 rfl (mc M) _ (hB) 98 F2.out _ Try.underlying28 rfl size_mach ?_; rw [F1.out]) | (go_at_call 38; refine (IsMachine_calls M hok _).mono ?_; rintro e w1 ⟨rfl, hc1⟩; rw [hm]; have hb1 := below_step hb0 hc1))
    go_ret
    exact ⟨ret_int Hc.out.symm, hb1⟩
  · cases hq : inS M q
    · have Hc : Hid (pwC M q n least = 2) := Lib.hid (by simp [pwC, hm, hq])
      go_enter Try.func55, Try.ntmps55
      go_wp2_with (first | (with_reducible show wpList _ _ _ _ _ _; refine wpList_load_blk rfl 28 (.tmp 4) rfl w.heap.size 0 rfl (mc M) _ (by first | exact hB1 | exact hB) 98 F2.out _ Try.underlying28 rfl size_mach ?_; rw [F1.out]) | (go_at_call 38; refine (IsMachine_calls M hok _).mono ?_; rintro e w1 ⟨rfl, hc1⟩; rw [hm]; have hb1 := below_step hb0 hc1; have hB1 := hB.keptAll hc1))
      (go_at_call 73; refine (isState_calls M q _).mono ?_; rintro e w2 ⟨rfl, hc2⟩; rw [show decide (0 ≤ q ∧ q < M.S) = inS M q from rfl, hq]; have hb2 := below_step hb1 hc2)
      go_wp2
      go_ret
      exact ⟨ret_int Hc.out.symm, hb2⟩
    · by_cases h1 : n < least
      · have Hc : Hid (pwC M q n least = 2) := Lib.hid (by simp [pwC, hm, hq]; omega)
        go_enter Try.func55, Try.ntmps55
        go_wp2_with (first | (with_reducible show wpList _ _ _ _ _ _; refine wpList_load_blk rfl 28 (.tmp 4) rfl w.heap.size 0 rfl (mc M) _ (by first | exact hB1 | exact hB) 98 F2.out _ Try.underlying28 rfl size_mach ?_; rw [F1.out]) | (go_at_call 38; refine (IsMachine_calls M hok _).mono ?_; rintro e w1 ⟨rfl, hc1⟩; rw [hm]; have hb1 := below_step hb0 hc1; have hB1 := hB.keptAll hc1))
        (go_at_call 73; refine (isState_calls M q _).mono ?_; rintro e w2 ⟨rfl, hc2⟩; rw [show decide (0 ≤ q ∧ q < M.S) = inS M q from rfl, hq]; have hb2 := below_step hb1 hc2)
        go_wp2
        go_ret
        exact ⟨ret_int Hc.out.symm, hb2⟩
      · by_cases h2 : 16 < n
        · have Hc : Hid (pwC M q n least = 2) := Lib.hid (by simp [pwC, hm, hq]; omega)
          go_enter Try.func55, Try.ntmps55
          go_wp2_with (first | (with_reducible show wpList _ _ _ _ _ _; refine wpList_load_blk rfl 28 (.tmp 4) rfl w.heap.size 0 rfl (mc M) _ (by first | exact hB1 | exact hB) 98 F2.out _ Try.underlying28 rfl size_mach ?_; rw [F1.out]) | (go_at_call 38; refine (IsMachine_calls M hok _).mono ?_; rintro e w1 ⟨rfl, hc1⟩; rw [hm]; have hb1 := below_step hb0 hc1; have hB1 := hB.keptAll hc1))
          (go_at_call 73; refine (isState_calls M q _).mono ?_; rintro e w2 ⟨rfl, hc2⟩; rw [show decide (0 ≤ q ∧ q < M.S) = inS M q from rfl, hq]; have hb2 := below_step hb1 hc2)
          go_wp2
          go_ret
          exact ⟨ret_int Hc.out.symm, hb2⟩
        · have Hc : Hid (pwC M q n least = 0) := Lib.hid (by simp [pwC, hm, hq]; omega)
          go_enter Try.func55, Try.ntmps55
          go_wp2_with (first | (with_reducible show wpList _ _ _ _ _ _; refine wpList_load_blk rfl 28 (.tmp 4) rfl w.heap.size 0 rfl (mc M) _ (by first | exact hB1 | exact hB) 98 F2.out _ Try.underlying28 rfl size_mach ?_; rw [F1.out]) | (go_at_call 38; refine (IsMachine_calls M hok _).mono ?_; rintro e w1 ⟨rfl, hc1⟩; rw [hm]; have hb1 := below_step hb0 hc1; have hB1 := hB.keptAll hc1))
          (go_at_call 73; refine (isState_calls M q _).mono ?_; rintro e w2 ⟨rfl, hc2⟩; rw [show decide (0 ≤ q ∧ q < M.S) = inS M q from rfl, hq]; have hb2 := below_step hb1 hc2)
          go_wp2
          go_ret
          exact ⟨ret_int Hc.out.symm, hb2⟩
end Go.Proofs.Ytkkooafjpancoaa

namespace Go.Proofs.Ytkkooafjpancoaa
open Go.RowKit

theorem twoC_zero {M J : Mach} {q r : Int} (h : twoC M q J r = 0) : isMach M = true ∧ isMach J = true ∧ inS M q = true ∧ inS J r = true ∧ M.L = J.L := by
  unfold twoC at h
  by_cases h1 : isMach M = true
  · by_cases h2 : isMach J = true
    · by_cases h3 : inS M q = true
      · by_cases h4 : inS J r = true
        · by_cases h5 : M.L = J.L
          · exact ⟨h1, h2, h3, h4, h5⟩
          · simp [h1, h2, h3, h4, h5] at h
        · simp [h1, h2, h3, h4] at h
      · simp [h1, h2, h3] at h
    · simp [h1, h2] at h
  · simp [h1] at h
theorem two_good {M J : Mach} (hok : M.Ok) (hoj : J.Ok) {q r : Int} (h : twoC M q J r = 0) : ∃ L S T qn rn, Good M L S ∧ Good J L T ∧ q = ((qn : Nat) : Int) ∧ r = ((rn : Nat) : Int) ∧ qn < S ∧ rn < T := by
  obtain ⟨h1, h2, h3, h4, h5⟩ := twoC_zero h
  obtain ⟨L, S, hM⟩ := Good.of hok h1
  obtain ⟨L2, T, hJ⟩ := Good.of hoj h2
  have e : L = L2 := by have a := hM.hL; have b := hJ.hL; omega
  subst e
  unfold inS at h3 h4
  rw [decide_eq_true_eq, hM.hS] at h3
  rw [decide_eq_true_eq, hJ.hS] at h4
  exact ⟨L, S, T, q.toNat, r.toNat, hM, hJ, (Int.toNat_of_nonneg h3.1).symm, (Int.toNat_of_nonneg h4.1).symm, by omega, by omega⟩
/-- The machine of a state, by the machine's own numbers. -/
def stN (M : Mach) (q : Int) : Mach := stM M M.L.toNat q.toNat
theorem stN_eq {M : Mach} {L S : Nat} (hg : Good M L S) (q : Nat) : stN M (q : Int) = stM M L q := by
  unfold stN; rw [hg.hL, Int.toNat_natCast, Int.toNat_natCast]
def acB (M : Mach) (q : Int) (J : Mach) (r : Int) : Bool := if twoC M q J r = 0 then decide (stN M q = stN J r) else false
theorem acB_no {M J : Mach} {q r : Int} (h : ¬ twoC M q J r = 0) : acB M q J r = false := by unfold acB; rw [if_neg h]
theorem acB_yes {M J : Mach} {q r : Int} (h : twoC M q J r = 0) : acB M q J r = decide (stN M q = stN J r) := by unfold acB; rw [if_pos h]
theorem exec_bld2 {P : Program} {a : Act} {o : Oper} (t : TypeId) (i0 i1 : Nat) (x0 x1 : Operand) (ho : o.op = .build t #[(i0, x0), (i1, x1)]) (v0 v1 : Value) (h0 : a.eval x0 = v0) (h1 : a.eval x1 = v1) (cells : Array Value) (hc : P.built t [(i0, v0), (i1, v1)] = some cells) (W : World) :
    (execOp a.eval o).run P W = .ok (.value (.agg cells)) W := by
  subst h0 h1
  have := run_build (P := P) W t #[(i0, a.eval x0), (i1, a.eval x1)] cells hc
  unfold execOp
  simp [ho, this]
theorem exec_eql {P : Program} {a : Act} {o : Oper} (t t2 : TypeId) (x0 x1 : Operand) (ho : o.op = .binOp .eql t x0 x1 t2) (xs ys : Array Value) (v : Value) (h0 : a.eval x0 = .agg xs) (h1 : a.eval x1 = .agg ys) (W : World) (hm : P.eqGuardType P.depth t = false) (h : (binOp .eql t (.agg xs) (.agg ys)).run P W = .ok v W) :
    (execOp a.eval o).run P W = .ok (.value v) W := by
  unfold execOp
  simp [ho, h0, h1, run_eqGuard_agg (w := W) _ _ _ _ _ _ hm, h]
end Go.Proofs.Ytkkooafjpancoaa
