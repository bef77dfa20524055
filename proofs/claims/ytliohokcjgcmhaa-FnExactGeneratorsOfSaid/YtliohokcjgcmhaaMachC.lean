/- 'usedPart': the machine with 0 in all entries that belong to no state or no letter. -/
import Derived.Test.YtliohokcjgcmhaaMachB
import Derived.Test.YtliohokcjgcmhaaMachU
import Derived.Deep.WholeRow
import Derived.StillTailTactics
namespace Go.Proofs.Ytliohokcjgcmhaa
open Go.RowKit

theorem info_mach : (Try.prog.info? 27).map (fun i => (i.zero, i.size)) = some (some (.agg (mc zeroM)), 98) := by kernel_rfl
theorem zero_mach : ∀ w, (zeroValue 27).run Try.prog w = .ok (.agg (mc zeroM)) w := (zero_of_info info_mach).1
theorem size_mach : (Try.prog.info? 27).map (·.size) = some 98 := (zero_of_info info_mach).2
theorem size_byte : (Try.prog.info? 5).map (·.size) = some 1 := by kernel_rfl
theorem row_mach : ∃ d, Try.prog.underlying 27 = some d ∧ d.isRow = true := ⟨_, Try.underlying27, rfl⟩

set_option maxRecDepth 100000 in
set_option maxHeartbeats 400000 in
theorem usedPart_calls (M : Mach) (hok : M.Ok) (L S : Nat) (hL : M.L = L) (hS : M.S = S) (h2 : 2 ≤ L) (h3 : L ≤ 3) (h1 : 1 ≤ S) (h16 : S ≤ 16) (w : World) :
    Calls Try.prog 138 #[.agg (mc M)] w fun e w' => e = .returned (.agg (mc (usedM M L S S))) ∧ Below w.heap.size w w' := by
  have hcL := mc_L M
  have hcS := mc_S M
  rw [hL] at hcL
  rw [hS] at hcS
  have HL := Lib.hid hL; have HS := Lib.hid hS; clear hL hS
  have hz := zero_mach
  have hzs : (mc zeroM).size = 98 := mc_size zeroM_ok
  have hset : ((mc zeroM).setIfInBounds 0 (.int .i64 L)).setIfInBounds 1 (.int .i64 S) = mc (usedM M L 0 0) := by rw [zero_set, usedM_start, HL.out, HS.out]
  have hB1 : Blk (((w.alloc (.cells (mc M) 27)).alloc (.cells (mc zeroM) 27)).alloc (.cells (mc zeroM) 27)) w.heap.size (mc M) 27 := ((Blk.new w _ _).alloc _).alloc _
  have hB2 : Blk (((w.alloc (.cells (mc M) 27)).alloc (.cells (mc zeroM) 27)).alloc (.cells (mc zeroM) 27)) (w.heap.size + 1) (mc zeroM) 27 := (Blk.new_at _ _ _ _ (by simp)).alloc _
  have hB3 : Blk (((w.alloc (.cells (mc M) 27)).alloc (.cells (mc zeroM) 27)).alloc (.cells (mc zeroM) 27)) (w.heap.size + 1 + 1) (mc zeroM) 27 := Blk.new_at _ _ _ _ (by simp)
  have hus : ∀ a b, (mc (usedM M L a b)).size = 98 := fun a b => mc_size (usedM_ok hok L a b)
  have huso : ∀ a b, (mc (usedM M L a b)).all (·.oneCell') = true := fun a b => mc_one _
  have hbel0 : Below w.heap.size w (((w.alloc (.cells (mc M) 27)).alloc (.cells (mc zeroM) 27)).alloc (.cells (mc zeroM) 27)) := by (repeat (first | exact Below.refl _ _ | refine below_drew' ?_ | refine below_drewN' ?_ _ | refine below_alloc' ?_ _ | refine below_set' ?_ (by (try simp); (try omega)) _ | refine below_step ?_ (by assumption)))
  generalize hu0 : usedM M L 0 0 = U0 at hset
  have Hu0 := Lib.hid hu0; clear hu0
  have HzS := Lib.hid hus; have HzO := Lib.hid huso; clear hus huso
  have F1 : Hid (0 + (mc U0).size ≤ (mc zeroM).size) := Lib.hid (by rw [hzs, ← Hu0.out, HzS.out]; omega)
  have F2 : Hid ((Try.prog.info? 27).map (·.size) = some (mc U0).size) := Lib.hid (by rw [← Hu0.out, HzS.out]; exact size_mach)
  have F3 : Hid ((mc U0).all (·.oneCell') = true) := Lib.hid (mc_one _)
  have F4 : Hid (over (mc zeroM) 0 (mc U0) = mc (usedM M L 0 0)) := Lib.hid (by rw [over_all _ _ (by rw [hzs, ← Hu0.out, HzS.out]), Hu0.out])
  go_enter Try.func138, Try.ntmps138
  go_wp2_with (with_reducible show wpList _ _ _ _ _ _; refine wpList_store_blk rfl 27 (.tmp 3) (.tmp 9) rfl (w.heap.size + 1 + 1) 0 (mc U0) rfl rfl (mc zeroM) 27 hB3 F1.out F2.out F3.out ?_; intro w1 hb3 hkeep hsz hbl; have hb1 := hkeep _ _ _ (by omega) hB1; have hb2 := hkeep _ _ _ (by omega) hB2; have hbw := hbl _ _ (by omega) hbel0; have cA := hb1.cell; rw [F4.out] at hb3; clear hkeep hbl hB1 hB2 hB3 hbel0 hsz)
  clear F1 F2 F3 F4 hz hzs hset
  go_loopw [12] (fun i wr => ∃ q : Nat, q ≤ S ∧ i = .int .i64 q ∧ Blk wr w.heap.size (mc M) 27 ∧ Blk wr (w.heap.size + 1) (mc zeroM) 27 ∧ Blk wr (w.heap.size + 1 + 1) (mc (usedM M L q q)) 27 ∧ Below w.heap.size w wr) (fun i _ => S - (intOf i).toNat)
  case atStart => exact ⟨0, by omega, rfl, hb1, hb2, hb3, hbw⟩
  case round =>
    clear hb1 hb2 hb3 hbw cA
    obtain ⟨q, hq, rfl, hb1, hb2, hb3, hbw⟩ := hrel
    have cA := hb1.cell
    by_cases hlt : q < S
    · have hq16 : q < 16 := by omega
      have hqi : (q : Int) < 16 := by omega
      have hLi : (L : Int) ≤ 3 := by omega
      go_wp2
      go_still_tail 10, (by kernel_rfl)
      refine wpList_copy_blk rfl _ _ 69 69 rfl 5 Try.underlying69 size_byte (w.heap.size + 1 + 1) (50 + q * 3) L 3 w.heap.size (50 + q * 3) 3 3 rfl rfl (mc (usedM M L q q)) (mc M) _ _ hb3.drew hb1.drew L (by show L = min 3 L; omega) (by rw [HzS.out]; omega) (by rw [mc_size hok]; omega) (mc_ones M) ?_
      intro w2 hb3' hkeep _ hbl
      have hb1' := hkeep _ _ _ (by omega) hb1.drew
      have hb2' := hkeep _ _ _ (by omega) hb2.drew
      have hbw' := hbl _ _ (by omega) hbw.drew
      rw [used_ot hok L q q h3 hq16] at hb3'
      clear hb1 hb2 hb3 hbw hkeep hbl cA
      have cA := hb1'.cell
      go_wp2
      go_still_tail 10, (by kernel_rfl)
      refine wpList_copy_blk rfl _ _ 69 69 rfl 5 Try.underlying69 size_byte (w.heap.size + 1 + 1) (2 + q * 3) L 3 w.heap.size (2 + q * 3) 3 3 rfl rfl (mc (usedM M L q (q + 1))) (mc M) _ _ hb3'.drew hb1'.drew L (by show L = min 3 L; omega) (by rw [HzS.out]; omega) (by rw [mc_size hok]; omega) (mc_ones M) ?_
      intro w3 hb3 hkeep _ hbl
      have hb1 := hkeep _ _ _ (by omega) hb1'.drew
      have hb2 := hkeep _ _ _ (by omega) hb2'.drew
      have hbw := hbl _ _ (by omega) hbw'.drew
      rw [used_nx hok L q (q + 1) h3 hq16] at hb3
      clear hb1' hb2' hb3' hbw' hkeep hbl cA
      go_wp2
      go_roundw
      case rel => exact ⟨q + 1, by omega, by go_num, hb1, hb2, hb3, hbw⟩
      case measure => simp [intOf] <;> omega
    · obtain rfl : q = S := by omega
      have F1 : Hid ((mc (usedM M L q q)).size = (mc zeroM).size) := Lib.hid (by rw [HzS.out, mc_size zeroM_ok])
      go_wp2_with (first | (with_reducible show wpList _ _ _ _ _ _; refine wpList_load_blk rfl 27 (.tmp 3) rfl (w.heap.size + 1 + 1) 0 rfl _ _ hb3 98 (by rw [HzS.out]; omega) _ Try.underlying27 rfl size_mach ?_; rw [cut_all _ 98 (HzS.out _ _)]) | (with_reducible show wpList _ _ _ _ _ _; refine wpList_store_blk rfl 27 (.tmp 2) (.tmp 38) rfl (w.heap.size + 1) 0 (mc (usedM M L q q)) rfl rfl (mc zeroM) _ hb2 (by rw [HzS.out, mc_size zeroM_ok]; omega) (by rw [HzS.out]; exact size_mach) (mc_one _) ?_; intro w4 hb4 hkeep _ hbl; rw [over_all _ _ F1.out.symm] at hb4; have hbw4 := hbl _ _ (by omega) hbw; clear hkeep hbl hbw hb1 hb2 hb3))
      exact bodyPost_cell rfl rfl hb4 Try.underlying27 rfl (by rw [HzS.out]; exact size_mach) rfl ⟨rfl, hbw4⟩
end Go.Proofs.Ytliohokcjgcmhaa
