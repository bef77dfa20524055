/- Both 'IsGroupWord's, and the model's check of machines and group words. -/
import Derived.Test.YticnplcjjkilpaaGrpM
import Derived.Test.YticnplcjjkilpaaArgs
import Derived.Test.YticnplcjjkilpaaMachD
import Derived.Test.YticnplcjjkilpaaMach
namespace Go.Proofs.Yticnplcjjkilpaa
open Go.RowKit

def isGrp (M : Mach) (zs : List Int) : Bool := isMach M && grpOk M.S zs
theorem wrap_neg (S : Nat) (h : S ≤ 16) : IntKind.i64.wrap (-(S : Int)) = -(S : Int) := IntWalk.i64_in _ (by omega)

set_option maxRecDepth 100000 in
set_option maxHeartbeats 1000000 in
theorem IsGroupWord_calls (M : Mach) (hok : M.Ok) (v : Value) (zs : List Int) (w : World) (hv : SeesI w v zs) :
    Calls Try.prog 32 #[.agg (mc M), v] w fun e w' => e = .returned (.bool (isGrp M zs)) ∧ Below w.heap.size w w' := by
  have F1 : Hid (cut (mc M) 0 98 = mc M) := Lib.hid (cut_all _ _ (mc_size hok)); have F2 : Hid (0 + 98 ≤ (mc M).size) := Lib.hid (by rw [mc_size hok]; omega)
  have hB : Blk (w.alloc (.cells (mc M) 29)) w.heap.size (mc M) 29 := Blk.new w _ _
  obtain ⟨oa, ca, rfl, hca⟩ := hv.view
  have hln := hv.1
  unfold maxLen at hln
  clear hv
  cases hm : isMach M
  · have Hr : Hid (isGrp M zs = false) := Lib.hid (by simp [isGrp, hm])
    clear hca
    go_enter Try.func32, Try.ntmps32
    go_wp2_with (first | (with_reducible show wpList _ _ _ _ _ _; refine wpList_load_blk rfl 29 (.tmp 2) rfl w.heap.size 0 rfl (mc M) _ (by first | exact hB1 | exact hB) 98 F2.out _ Try.underlying29 rfl size_mach ?_; rw [F1.out]) | (go_at_call 56; refine (IsMachine_calls M hok _).mono ?_; rintro e w1 ⟨rfl, hb1⟩; have hB1 := hB.keptAll hb1))
    go_ret
    exact ⟨ret_bool Hr.out.symm, by (repeat (first | exact Below.refl _ _ | refine below_drew' ?_ | refine below_drewN' ?_ _ | refine below_alloc' ?_ _ | refine below_set' ?_ (by (try simp); (try omega)) _ | refine below_step ?_ (by assumption)))⟩
  · by_cases h40 : zs.length ≤ 40
    · obtain ⟨L, S, hg⟩ := Good.of hok hm
      have hS16 := hg.S16
      have hcS := mc_S M
      rw [hg.hS] at hcS
      have hrd : isGrp M zs = numsOk S zs := by simp [isGrp, hm, hg.hS, grpOk_short h40]
      have Hrd := Lib.hid hrd; clear hrd
      have hgt : ¬ (40 < (zs.length : Int)) := by omega
      have hwn := wrap_neg S hS16
      have Hca := Lib.hid hca; clear hca
      clear hg
      go_enter Try.func32, Try.ntmps32
      go_wp2_with (first | (with_reducible show wpList _ _ _ _ _ _; refine wpList_load_blk rfl 29 (.tmp 2) rfl w.heap.size 0 rfl (mc M) _ (by first | exact hB1 | exact hB) 98 F2.out _ Try.underlying29 rfl size_mach ?_; rw [F1.out]) | (go_at_call 56; refine (IsMachine_calls M hok _).mono ?_; rintro e w1 ⟨rfl, hb1⟩; have hB1 := hB.keptAll hb1; have cA := hB1.cell))
      have hbw : Below w.heap.size w w1 := by (repeat (first | exact Below.refl _ _ | refine below_drew' ?_ | refine below_drewN' ?_ _ | refine below_alloc' ?_ _ | refine below_set' ?_ (by (try simp); (try omega)) _ | refine below_step ?_ (by assumption)))
      go_loop [17] (fun i => ∃ k : Nat, k ≤ zs.length ∧ i = .int .i64 k ∧ Hid (numsUp S zs k = true)) (fun i => zs.length - (intOf i).toNat)
      case atStart => exact ⟨0, by omega, rfl, Lib.hid (numsUp_zero _ _)⟩
      case round =>
        obtain ⟨k, hk, rfl, HU⟩ := hrel
        by_cases hlt : k < zs.length
        · obtain ⟨g, rfl, _, hcell⟩ := Hca.out (by omega)
          have c1 := cell_kept hbw (hcell k hlt)
          have hki : (k : Int) < zs.length := by omega
          clear hcell
          cases hno : numOk S zs[k]
          · have Hbad := Lib.hid (numsOk_bad S zs k hlt hno)
            rw [numOk_no] at hno
            generalize zs[k] = z at *
            by_cases z0 : z = 0
            · subst z0
              clear hno
              go_wp2
              go_ret
              exact ⟨ret_bool (by rw [Hrd.out, Hbad.out]), hbw⟩
            · have z0' : (z == 0) = false := by simpa using z0
              by_cases z1 : z < -(S : Int)
              · clear hno z0
                go_wp2
                go_ret
                exact ⟨ret_bool (by rw [Hrd.out, Hbad.out]), hbw⟩
              · have z2 : (S : Int) < z := by omega
                clear hno z0
                go_wp2
                go_ret
                exact ⟨ret_bool (by rw [Hrd.out, Hbad.out]), hbw⟩
          · have Hn := Lib.hid (numsUp_succ S zs k hlt HU.out hno)
            rw [numOk_iff] at hno
            generalize zs[k] = z at *
            have z0' : (z == 0) = false := by simpa using hno.1
            have z1 : ¬ z < -(S : Int) := by omega
            have z2 : ¬ (S : Int) < z := by omega
            clear hno
            go_wp2
            go_round
            case rel => exact ⟨k + 1, by omega, by go_num, Hn⟩
            case measure => simp [intOf] <;> omega
        · obtain rfl : k = zs.length := by omega
          have Hall : Hid (numsOk S zs = true) := Lib.hid (by rw [← numsUp_all]; exact HU.out)
          go_wp2
          go_ret
          exact ⟨ret_bool (by rw [Hrd.out, Hall.out]), hbw⟩
    · have Hr : Hid (isGrp M zs = false) := Lib.hid (by simp [isGrp, grpOk_long h40])
      have hgt : 40 < (zs.length : Int) := by omega
      clear hca
      go_enter Try.func32, Try.ntmps32
      go_wp2_with (first | (with_reducible show wpList _ _ _ _ _ _; refine wpList_load_blk rfl 29 (.tmp 2) rfl w.heap.size 0 rfl (mc M) _ (by first | exact hB1 | exact hB) 98 F2.out _ Try.underlying29 rfl size_mach ?_; rw [F1.out]) | (go_at_call 56; refine (IsMachine_calls M hok _).mono ?_; rintro e w1 ⟨rfl, hb1⟩; have hB1 := hB.keptAll hb1))
      go_ret
      exact ⟨ret_bool Hr.out.symm, by (repeat (first | exact Below.refl _ _ | refine below_drew' ?_ | refine below_drewN' ?_ _ | refine below_alloc' ?_ _ | refine below_set' ?_ (by (try simp); (try omega)) _ | refine below_step ?_ (by assumption)))⟩
end Go.Proofs.Yticnplcjjkilpaa
