/- 'trivialMachine'. · 'l07Trivial'. -/
import Derived.Test.YtkkooafjpancoaaAuP
import Derived.Test.YtkkooafjpancoaaInvI
namespace Go.Proofs.Ytkkooafjpancoaa
open Go.RowKit

/-- The trivial machine while it is made: k letters put out. -/
def triK (L k : Nat) : Mach := mkM L 1 (fun _ _ => 0) (fun i x => if i = 0 ∧ x < k then (x : Int) else 0)
theorem triK_all (L : Nat) : triK L L = trivM L := rfl
theorem triK_zero (L : Nat) : ((mc zeroM).setIfInBounds 0 (.int .i64 (L : Int))).setIfInBounds 1 (.int .i64 1) = mc (triK L 0) := by kernel_rfl
theorem triK_set (L k : Nat) (hk : k < 3) : (mc (triK L k)).setIfInBounds (50 + k) (.int .u8 (k : Int)) = mc (triK L (k + 1)) := by
  rcases (show k = 0 ∨ k = 1 ∨ k = 2 by omega) with rfl | rfl | rfl <;> kernel_rfl
theorem triK_at (L k x : Nat) (hx : x < 3) : ∃ v, (mc (triK L k))[50 + x]? = some v := ⟨_, Array.getElem?_eq_getElem (by simp [mc, triK, mkM]; omega)⟩
theorem triK_size (L k : Nat) : (mc (triK L k)).size = 98 := by simp [mc, triK, mkM]

set_option maxRecDepth 100000 in
set_option maxHeartbeats 2000000 in
theorem trivialMachine_calls (L : Nat) (hL3 : L ≤ 3) (w : World) :
    Calls Try.prog 66 #[.int .i64 (L : Int)] w fun e w' => e = .returned (.agg (mc (trivM L))) ∧ Below w.heap.size w w' := by
  have hz := zero_mach
  have hR : Blk ((w.alloc (.cells (mc zeroM) 28)).alloc (.cells (mc zeroM) 28)) w.heap.size (mc zeroM) 28 := (Blk.new w _ _).alloc _
  have hN : Blk ((w.alloc (.cells (mc zeroM) 28)).alloc (.cells (mc zeroM) 28)) (w.heap.size + 1) (mc zeroM) 28 := Blk.new_at _ _ _ _ (by simp)
  have hbw0 : Below w.heap.size w ((w.alloc (.cells (mc zeroM) 28)).alloc (.cells (mc zeroM) 28)) := by (repeat (first | exact Below.refl _ _ | refine below_drew' ?_ | refine below_drewN' ?_ _ | refine below_alloc' ?_ _ | refine below_set' ?_ (by (try simp); (try omega)) _ | refine below_step ?_ (by assumption)))
  have HzS : Hid ((mc zeroM).size = 98) := Lib.hid (mc_size zeroM_ok)
  have HtS : Hid (∀ k, (mc (triK L k)).size = 98) := Lib.hid (triK_size L)
  have hset := triK_zero L
  have G1 : Hid (0 + (mc (triK L 0)).size ≤ (mc zeroM).size) := Lib.hid (by rw [HzS.out, triK_size]; omega)
  have G2 : Hid ((Try.prog.info? 28).map (·.size) = some (mc (triK L 0)).size) := Lib.hid (by rw [triK_size]; exact size_mach)
  have G4 : Hid (over (mc zeroM) 0 (mc (triK L 0)) = mc (triK L 0)) := Lib.hid (over_all _ _ (by rw [HzS.out, triK_size]))
  go_enter Try.func66, Try.ntmps66
  go_wp2_with ((with_reducible show wpList _ _ _ _ _ _); refine wpList_store_blk rfl 28 (.tmp 3) (.tmp 6) rfl (w.heap.size + 1) 0 (mc (triK L 0)) rfl rfl (mc zeroM) _ hN G1.out G2.out (mc_one _) ?_; intro w3 hb3 hkeep hsz3 hbl; rw [G4.out] at hb3; have hbw3 := hbl _ _ (by omega) hbw0; have hR3 := hkeep _ _ _ (by omega) hR; clear hkeep hbl)
  clear G1 G2 G4 hset hN hR hbw0
  go_loopw [8] (fun i wr => ∃ x : Nat, x ≤ L ∧ i = .int .i64 x ∧ Blk wr w.heap.size (mc zeroM) 28 ∧ Blk wr (w.heap.size + 1) (mc (triK L x)) 28 ∧ Below w.heap.size w wr) (fun i _ => L - (intOf i).toNat)
  case atStart => exact ⟨0, by omega, rfl, hR3, hb3, hbw3⟩
  case round =>
    clear hR3 hb3 hbw3
    obtain ⟨x, hx, rfl, hR, hN, hbw⟩ := hrel
    by_cases hlx : x < L
    · have hxi : (x : Int) < 3 := by omega
      have hxw : IntKind.u8.wrap (x : Int) = (x : Int) := by simp [IntKind.wrap, IntKind.bits, IntKind.signed]; omega
      obtain ⟨v, hv⟩ := triK_at L x x (by omega)
      have cN := (hN.cell (50 + x)).trans hv
      have fN := hN.free (50 + x)
      have hN2 := hN.set (50 + x) (.int .u8 (x : Int))
      rw [triK_set L x (by omega)] at hN2
      have hR2 := hR.setOther (w.heap.size + 1) (50 + x) (.int .u8 (x : Int)) (by omega)
      have hbw2 := hbw.setCell (p := ⟨w.heap.size + 1, 50 + x, none⟩) (show w.heap.size ≤ w.heap.size + 1 by omega) (.int .u8 (x : Int))
      go_wp2
      go_roundw
      case rel => exact ⟨x + 1, by omega, by go_num, hR2, hN2, hbw2⟩
      case measure => simp [intOf] <;> omega
    · obtain rfl : L = x := by omega
      have F1 : Hid (cut (mc (triK L L)) 0 98 = mc (triK L L)) := Lib.hid (cut_all _ _ (HtS.out L))
      have F2 : Hid (over (mc zeroM) 0 (mc (triK L L)) = mc (triK L L)) := Lib.hid (over_all _ _ (by rw [HtS.out, HzS.out]))
      go_wp2_with (first | ((with_reducible show wpList _ _ _ _ _ _); refine wpList_load_blk rfl 28 (.tmp 3) rfl (w.heap.size + 1) 0 rfl _ _ hN 98 (by rw [HtS.out]; omega) _ Try.underlying28 rfl size_mach ?_; rw [F1.out]) | ((with_reducible show wpList _ _ _ _ _ _); refine wpList_store_blk rfl 28 (.tmp 2) (.tmp 18) rfl w.heap.size 0 _ rfl rfl (mc zeroM) _ hR (by rw [HtS.out, HzS.out]; omega) (by rw [HtS.out]; exact size_mach) (mc_one _) ?_; intro w4 hb4 hkeep _ hbl; rw [F2.out] at hb4; have hbw4 := hbl _ _ (by omega) hbw; clear hkeep hbl))
      exact bodyPost_cell rfl rfl hb4 Try.underlying28 rfl (by rw [HtS.out]; exact size_mach) rfl ⟨rfl, hbw4⟩
end Go.Proofs.Ytkkooafjpancoaa

namespace Go.Proofs.Ytkkooafjpancoaa
open Go.RowKit


set_option maxRecDepth 100000 in
set_option maxHeartbeats 2000000 in
theorem l07Trivial_calls (L : Nat) (hL3 : L ≤ 3) (w : World) :
    Calls Try.prog 58 #[.int .i64 (L : Int)] w fun e w' => e = .returned (.agg (mc (trivM L))) ∧ Below w.heap.size w w' := by
  have hz := zero_mach
  have hR : Blk ((w.alloc (.cells (mc zeroM) 28)).alloc (.cells (mc zeroM) 28)) w.heap.size (mc zeroM) 28 := (Blk.new w _ _).alloc _
  have hN : Blk ((w.alloc (.cells (mc zeroM) 28)).alloc (.cells (mc zeroM) 28)) (w.heap.size + 1) (mc zeroM) 28 := Blk.new_at _ _ _ _ (by simp)
  have hbw0 : Below w.heap.size w ((w.alloc (.cells (mc zeroM) 28)).alloc (.cells (mc zeroM) 28)) := by (repeat (first | exact Below.refl _ _ | refine below_drew' ?_ | refine below_drewN' ?_ _ | refine below_alloc' ?_ _ | refine below_set' ?_ (by (try simp); (try omega)) _ | refine below_step ?_ (by assumption)))
  have HzS : Hid ((mc zeroM).size = 98) := Lib.hid (mc_size zeroM_ok)
  have HtS : Hid (∀ k, (mc (triK L k)).size = 98) := Lib.hid (triK_size L)
  have hset := triK_zero L
  have G1 : Hid (0 + (mc (triK L 0)).size ≤ (mc zeroM).size) := Lib.hid (by rw [HzS.out, triK_size]; omega)
  have G2 : Hid ((Try.prog.info? 28).map (·.size) = some (mc (triK L 0)).size) := Lib.hid (by rw [triK_size]; exact size_mach)
  have G4 : Hid (over (mc zeroM) 0 (mc (triK L 0)) = mc (triK L 0)) := Lib.hid (over_all _ _ (by rw [HzS.out, triK_size]))
  go_enter Try.func58, Try.ntmps58
  go_wp2_with ((with_reducible show wpList _ _ _ _ _ _); refine wpList_store_blk rfl 28 (.tmp 3) (.tmp 6) rfl (w.heap.size + 1) 0 (mc (triK L 0)) rfl rfl (mc zeroM) _ hN G1.out G2.out (mc_one _) ?_; intro w3 hb3 hkeep hsz3 hbl; rw [G4.out] at hb3; have hbw3 := hbl _ _ (by omega) hbw0; have hR3 := hkeep _ _ _ (by omega) hR; clear hkeep hbl)
  clear G1 G2 G4 hset hN hR hbw0
  go_loopw [4] (fun i wr => ∃ x : Nat, x ≤ L ∧ i = .int .i64 x ∧ Blk wr w.heap.size (mc zeroM) 28 ∧ Blk wr (w.heap.size + 1) (mc (triK L x)) 28 ∧ Below w.heap.size w wr) (fun i _ => L - (intOf i).toNat)
  case atStart => exact ⟨0, by omega, rfl, hR3, hb3, hbw3⟩
  case round =>
    clear hR3 hb3 hbw3
    obtain ⟨x, hx, rfl, hR, hN, hbw⟩ := hrel
    by_cases hlx : x < L
    · have hxi : (x : Int) < 3 := by omega
      have hxw : IntKind.u8.wrap (x : Int) = (x : Int) := by simp [IntKind.wrap, IntKind.bits, IntKind.signed]; omega
      obtain ⟨v, hv⟩ := triK_at L x x (by omega)
      have cN := (hN.cell (50 + x)).trans hv
      have fN := hN.free (50 + x)
      have hN2 := hN.set (50 + x) (.int .u8 (x : Int))
      rw [triK_set L x (by omega)] at hN2
      have hR2 := hR.setOther (w.heap.size + 1) (50 + x) (.int .u8 (x : Int)) (by omega)
      have hbw2 := hbw.setCell (p := ⟨w.heap.size + 1, 50 + x, none⟩) (show w.heap.size ≤ w.heap.size + 1 by omega) (.int .u8 (x : Int))
      go_wp2
      go_roundw
      case rel => exact ⟨x + 1, by omega, by go_num, hR2, hN2, hbw2⟩
      case measure => simp [intOf] <;> omega
    · obtain rfl : L = x := by omega
      have F1 : Hid (cut (mc (triK L L)) 0 98 = mc (triK L L)) := Lib.hid (cut_all _ _ (HtS.out L))
      have F2 : Hid (over (mc zeroM) 0 (mc (triK L L)) = mc (triK L L)) := Lib.hid (over_all _ _ (by rw [HtS.out, HzS.out]))
      go_wp2_with (first | ((with_reducible show wpList _ _ _ _ _ _); refine wpList_load_blk rfl 28 (.tmp 3) rfl (w.heap.size + 1) 0 rfl _ _ hN 98 (by rw [HtS.out]; omega) _ Try.underlying28 rfl size_mach ?_; rw [F1.out]) | ((with_reducible show wpList _ _ _ _ _ _); refine wpList_store_blk rfl 28 (.tmp 2) (.tmp 18) rfl w.heap.size 0 _ rfl rfl (mc zeroM) _ hR (by rw [HtS.out, HzS.out]; omega) (by rw [HtS.out]; exact size_mach) (mc_one _) ?_; intro w4 hb4 hkeep _ hbl; rw [F2.out] at hb4; have hbw4 := hbl _ _ (by omega) hbw; clear hkeep hbl))
      exact bodyPost_cell rfl rfl hb4 Try.underlying28 rfl (by rw [HtS.out]; exact size_mach) rfl ⟨rfl, hbw4⟩
end Go.Proofs.Ytkkooafjpancoaa
