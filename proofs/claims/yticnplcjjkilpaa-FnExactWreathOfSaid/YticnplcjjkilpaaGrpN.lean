/- A region that draws, with guards; the model's check of numbers. -/
import Derived.Test.YticnplcjjkilpaaGrp
namespace Go.Proofs.Yticnplcjjkilpaa
open Go.RowKit

theorem l01In_v (n low high : Int) (r : Bool) (h : decide (low ≤ n ∧ n ≤ high) = r) (w : World) :
    Calls Try.prog 69 #[.int .i64 n, .int .i64 low, .int .i64 high] w fun e w' => e = .returned (.bool r) ∧ w' = w :=
  (l01In_calls n low high w).mono fun e w' h' => ⟨by rw [h'.1, h], h'.2.symm⟩

set_option maxRecDepth 100000 in
set_option maxHeartbeats 1000000 in
theorem l02Numbers_calls (M : Mach) (L S : Nat) (hg : Good M L S) (v : Value) (zs : List Int) (w : World) (hv : SeesI w v zs) :
    Calls Try.prog 70 #[.agg (mc M), v] w fun e w' => e = .returned (.bool (numsOk S zs)) ∧ Below w.heap.size w w' := by
  have hok := hg.ok
  have hS16 := hg.S16
  have hcS := mc_S M
  rw [hg.hS] at hcS
  have hB : Blk (w.alloc (.cells (mc M) 29)) w.heap.size (mc M) 29 := Blk.new w _ _
  have hbw0 : Below w.heap.size w (w.alloc (.cells (mc M) 29)) := by (repeat (first | exact Below.refl _ _ | refine below_drew' ?_ | refine below_drewN' ?_ _ | refine below_alloc' ?_ _ | refine below_set' ?_ (by (try simp); (try omega)) _ | refine below_step ?_ (by assumption)))
  obtain ⟨oa, ca, rfl, hca⟩ := hv.view
  have hln := hv.1
  unfold maxLen at hln
  have hwn := wrap_neg S hS16
  have Hca := Lib.hid hca; clear hca hv hg
  go_enter Try.func70, Try.ntmps70
  go_wp2
  go_loopw [5] (fun i wr => ∃ k : Nat, k ≤ zs.length ∧ i = .int .i64 k ∧ Blk wr w.heap.size (mc M) 29 ∧ Below w.heap.size w wr ∧ Hid (numsUp S zs k = true)) (fun i _ => zs.length - (intOf i).toNat)
  case atStart => exact ⟨0, by omega, rfl, hB, hbw0, Lib.hid (numsUp_zero _ _)⟩
  case round =>
    clear hB hbw0
    obtain ⟨k, hk, rfl, hB, hbw, HU⟩ := hrel
    have cA := hB.cell
    by_cases hlt : k < zs.length
    · obtain ⟨g, rfl, _, hcell⟩ := Hca.out (by omega)
      have c1 := cell_kept hbw (hcell k hlt)
      have hki : (k : Int) < zs.length := by omega
      clear hcell
      have Hn : Hid (numOk S zs[k] = true → numsUp S zs (k + 1) = true) := Lib.hid (numsUp_succ S zs k hlt HU.out)
      have Hb : Hid (numOk S zs[k] = false → numsOk S zs = false) := Lib.hid (numsOk_bad S zs k hlt)
      generalize zs[k] = z at *
      by_cases z0 : z = 0
      · subst z0
        have Hbad := Lib.hid (Hb.out (by simp [numOk]))
        go_wp2
        go_quiet (fail)
        go_wp2
        go_ret
        exact ⟨ret_bool (by rw [Hbad.out]), by (repeat (first | exact Below.refl _ _ | refine below_drew' ?_ | refine below_drewN' ?_ _ | refine below_alloc' ?_ _ | refine below_set' ?_ (by (try simp); (try omega)) _ | refine below_step ?_ (by assumption)))⟩
      · have z0' : (z == 0) = false := by simpa using z0
        by_cases hr : -(S : Int) ≤ z ∧ z ≤ (S : Int)
        · have Hnx := Lib.hid (Hn.out (by rw [numOk_iff]; exact ⟨z0, hr⟩))
          have z1 : decide (-(S : Int) ≤ z ∧ z ≤ (S : Int)) = true := by simpa using hr
          clear hr z0
          go_wp2
          go_quiet ((go_at_call 69; exact Calls.quiet_of_same (l01In_v _ _ _ _ z1 _)))
          go_wp2
          go_roundw
          case rel => exact ⟨k + 1, by omega, by go_num, hB.drewN _, by (repeat (first | exact Below.refl _ _ | refine below_drew' ?_ | refine below_drewN' ?_ _ | refine below_alloc' ?_ _ | refine below_set' ?_ (by (try simp); (try omega)) _ | refine below_step ?_ (by assumption))), Hnx⟩
          case measure => simp [intOf] <;> omega
        · have Hbad := Lib.hid (Hb.out (by rw [numOk_no]; intro h; exact hr h.2))
          have z1 : decide (-(S : Int) ≤ z ∧ z ≤ (S : Int)) = false := by simpa using hr
          clear hr z0
          go_wp2
          go_quiet ((go_at_call 69; exact Calls.quiet_of_same (l01In_v _ _ _ _ z1 _)))
          go_wp2
          go_ret
          exact ⟨ret_bool (by rw [Hbad.out]), by (repeat (first | exact Below.refl _ _ | refine below_drew' ?_ | refine below_drewN' ?_ _ | refine below_alloc' ?_ _ | refine below_set' ?_ (by (try simp); (try omega)) _ | refine below_step ?_ (by assumption)))⟩
    · obtain rfl : k = zs.length := by omega
      have Hall : Hid (numsOk S zs = true) := Lib.hid (by rw [← numsUp_all]; exact HU.out)
      go_wp2
      go_ret
      exact ⟨ret_bool (by rw [Hall.out]), hbw⟩
end Go.Proofs.Yticnplcjjkilpaa
