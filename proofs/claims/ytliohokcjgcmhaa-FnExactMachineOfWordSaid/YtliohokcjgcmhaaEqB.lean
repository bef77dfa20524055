/- 'eqMachine' of a machine and itself. · 'eqMachine' of a machine and itself. -/
import Derived.Test.YtliohokcjgcmhaaConv
import Derived.Test.YtliohokcjgcmhaaHeldK
namespace Go.Proofs.Ytliohokcjgcmhaa
open Go.RowKit

set_option maxRecDepth 100000 in
set_option maxHeartbeats 400000 in
theorem eqByteA3_same (c : Array Value) (hs : c.size = 3) (hc : byteCells c) (w : World) :
    Calls Try.prog 117 #[.agg c, .agg c] w fun e w' => e = .returned (.bool true) ∧ Below w.heap.size w w' := by
  have hB1 : Blk ((w.alloc (.cells c 22)).alloc (.cells c 22)) w.heap.size c 22 := (Blk.new w _ _).alloc _
  have hB2 : Blk ((w.alloc (.cells c 22)).alloc (.cells c 22)) (w.heap.size + 1) c 22 := Blk.new_at _ _ _ _ (by simp)
  have hbw : Below w.heap.size w ((w.alloc (.cells c 22)).alloc (.cells c 22)) := by (repeat (first | exact Below.refl _ _ | refine below_drew' ?_ | refine below_drewN' ?_ _ | refine below_alloc' ?_ _ | refine below_set' ?_ (by (try simp); (try omega)) _ | refine below_step ?_ (by assumption)))
  have Hs := Lib.hid hs; clear hs
  go_enter Try.func117, Try.ntmps117
  go_wp2
  go_loopw [5] (fun i wr => ∃ k : Nat, k ≤ 3 ∧ i = .int .i64 k ∧ Blk wr w.heap.size c 22 ∧ Blk wr (w.heap.size + 1) c 22 ∧ Below w.heap.size w wr) (fun i _ => 3 - (intOf i).toNat)
  case atStart => exact ⟨0, by omega, rfl, hB1, hB2, hbw⟩
  case round =>
    clear hB1 hB2 hbw
    obtain ⟨k, hk, rfl, hB1, hB2, hbw⟩ := hrel
    by_cases hlt : k < 3
    · obtain ⟨n, hn⟩ := byteCells_at hc k (by rw [Hs.out]; exact hlt)
      have cA := hB1.cell k
      have cB := hB2.cell k
      rw [hn] at cA cB
      have hki : (k : Int) < 3 := by omega
      clear hn
      go_wp2
      go_quiet (fail)
      go_wp2
      go_roundw
      case rel => exact ⟨k + 1, by omega, by go_num, by first | exact hB1.drew | exact hB1, by first | exact hB2.drew | exact hB2, by (repeat (first | exact Below.refl _ _ | refine below_drew' ?_ | refine below_drewN' ?_ _ | refine below_alloc' ?_ _ | refine below_set' ?_ (by (try simp); (try omega)) _ | refine below_step ?_ (by assumption)))⟩
      case measure => simp [intOf] <;> omega
    · obtain rfl : k = 3 := by omega
      go_wp2
      go_ret
      exact ⟨rfl, hbw⟩
end Go.Proofs.Ytliohokcjgcmhaa

namespace Go.Proofs.Ytliohokcjgcmhaa
open Go.RowKit

set_option maxRecDepth 100000 in
set_option maxHeartbeats 1000000 in
theorem eqByteA3A16_same (c : Array Value) (hs : c.size = 48) (hc : byteCells c) (w : World) :
    Calls Try.prog 58 #[.agg c, .agg c] w fun e w' => e = .returned (.bool true) ∧ Below w.heap.size w w' := by
  have hB1 : Blk ((w.alloc (.cells c 23)).alloc (.cells c 23)) w.heap.size c 23 := (Blk.new w _ _).alloc _
  have hB2 : Blk ((w.alloc (.cells c 23)).alloc (.cells c 23)) (w.heap.size + 1) c 23 := Blk.new_at _ _ _ _ (by simp)
  have hbw : Below w.heap.size w ((w.alloc (.cells c 23)).alloc (.cells c 23)) := by (repeat (first | exact Below.refl _ _ | refine below_drew' ?_ | refine below_drewN' ?_ _ | refine below_alloc' ?_ _ | refine below_set' ?_ (by (try simp); (try omega)) _ | refine below_step ?_ (by assumption)))
  have Hs := Lib.hid hs; clear hs
  go_enter Try.func58, Try.ntmps58
  go_wp2
  go_loopw [5] (fun i wr => ∃ k : Nat, k ≤ 16 ∧ i = .int .i64 k ∧ Blk wr w.heap.size c 23 ∧ Blk wr (w.heap.size + 1) c 23 ∧ Below w.heap.size w wr) (fun i _ => 16 - (intOf i).toNat)
  case atStart => exact ⟨0, by omega, rfl, hB1, hB2, hbw⟩
  case round =>
    clear hB1 hB2 hbw
    obtain ⟨k, hk, rfl, hB1, hB2, hbw⟩ := hrel
    by_cases hlt : k < 16
    · have h3 := Lib.hid (size_cut c (k * 3) 3 (by rw [Hs.out]; omega))
      have hb3 := byteCells_cut hc (k * 3) 3
      obtain ⟨C3, hC3⟩ : ∃ C3, cut c (k * 3) 3 = C3 := ⟨_, rfl⟩
      rw [hC3] at h3 hb3
      have HC3 := Lib.hid hC3; clear hC3
      have hki : (k : Int) < 16 := by omega
      go_wp2_with fail
      refine wp_region_quiet (C := fun W => Blk W w.heap.size c 23 ∧ Blk W (w.heap.size + 1) c 23 ∧ Below w.heap.size w W) (by kernel_rfl) (by kernel_rfl) ⟨hB1.drew, hB2.drew, hbw.drew⟩ ?_
      refine wpK_val rfl (.int .i64 (k : Int)) (fun W _ => by go_simp) ?_; (intro K hK; go_simp; refine hK _ ?_; clear hK K)
      refine wpK_val rfl (.pointer (some ⟨w.heap.size, k * 3, none⟩)) (fun W _ => by go_simp) ?_; (intro K hK; go_simp; refine hK _ ?_; clear hK K)
      refine wpK_load rfl 22 _ rfl w.heap.size (k * 3) rfl c _ (fun W hW => hW.1) 3 (by rw [Hs.out]; omega) _ Try.underlying22 rfl size_a3 C3 HC3.out ?_; (intro K hK; go_simp; refine hK _ ?_; clear hK K)
      refine wpK_val rfl (.int .i64 (k : Int)) (fun W _ => by go_simp) ?_; (intro K hK; go_simp; refine hK _ ?_; clear hK K)
      refine wpK_val rfl (.pointer (some ⟨w.heap.size + 1, k * 3, none⟩)) (fun W _ => by go_simp) ?_; (intro K hK; go_simp; refine hK _ ?_; clear hK K)
      refine wpK_load rfl 22 _ rfl (w.heap.size + 1) (k * 3) rfl c _ (fun W hW => hW.2.1) 3 (by rw [Hs.out]; omega) _ Try.underlying22 rfl size_a3 C3 HC3.out ?_; (intro K hK; go_simp; refine hK _ ?_; clear hK K)
      refine wpK_call rfl 117 #[.agg C3, .agg C3] (.bool true) (fun W => by go_simp) (fun W hW => (eqByteA3_same C3 h3.out hb3 W).mono fun e w'' h => ⟨h.1, hW.1.keptAll h.2, hW.2.1.keptAll h.2, below_step hW.2.2 h.2⟩) ?_; (intro K hK; go_simp; refine hK _ ?_; clear hK K)
      refine wpK_val rfl (.bool false) (fun W _ => by go_simp) ?_; (intro K hK; go_simp; refine hK _ ?_; clear hK K)
      refine wpQuiet_nil ?_
      rintro w3 ⟨hB1', hB2', hbw'⟩
      clear hB1 hB2 hbw
      go_wp2
      go_roundw
      case rel => exact ⟨k + 1, by omega, by go_num, hB1', hB2', hbw'⟩
      case measure => simp [intOf] <;> omega
    · obtain rfl : k = 16 := by omega
      go_wp2
      go_ret
      exact ⟨rfl, hbw⟩

set_option maxRecDepth 100000 in
set_option maxHeartbeats 1000000 in
theorem eqMachine_same (M : Mach) (hok : M.Ok) (w : World) :
    Calls Try.prog 19 #[.agg (mc M), .agg (mc M)] w fun e w' => e = .returned (.bool true) ∧ Below w.heap.size w w' := by
  have hcL := mc_L M
  have hcS := mc_S M
  have HmS := Lib.hid (mc_size hok)
  have hbw : Below w.heap.size w ((w.alloc (.cells (mc M) 27)).alloc (.cells (mc M) 27)) := by (repeat (first | exact Below.refl _ _ | refine below_drew' ?_ | refine below_drewN' ?_ _ | refine below_alloc' ?_ _ | refine below_set' ?_ (by (try simp); (try omega)) _ | refine below_step ?_ (by assumption)))
  have hB1 : Blk ((w.alloc (.cells (mc M) 27)).alloc (.cells (mc M) 27)) w.heap.size (mc M) 27 := (Blk.new w _ _).alloc _
  have hB2 : Blk ((w.alloc (.cells (mc M) 27)).alloc (.cells (mc M) 27)) (w.heap.size + 1) (mc M) 27 := Blk.new_at _ _ _ _ (by simp)
  obtain ⟨C2, hC2⟩ : ∃ C2, cut (mc M) 2 48 = C2 := ⟨_, rfl⟩
  obtain ⟨C50, hC50⟩ : ∃ C50, cut (mc M) 50 48 = C50 := ⟨_, rfl⟩
  have H2 : Hid (C2.size = 48) := Lib.hid (by rw [← hC2]; exact size_cut (mc M) 2 48 (by rw [HmS.out]; omega))
  have H50 : Hid (C50.size = 48) := Lib.hid (by rw [← hC50]; exact size_cut (mc M) 50 48 (by rw [HmS.out]; omega))
  have K2 : Hid (byteCells C2) := Lib.hid (by rw [← hC2]; exact mc_bytes hok 2 (by omega))
  have K50 : Hid (byteCells C50) := Lib.hid (by rw [← hC50]; exact mc_bytes hok 50 (by omega))
  have E2 := Lib.hid hC2; have E50 := Lib.hid hC50; clear hC2 hC50
  go_enter Try.func19, Try.ntmps19
  go_wp2_with (first | (with_reducible show wpList _ _ _ _ _ _; refine wpList_load_blk rfl 23 (.tmp 15) rfl w.heap.size 2 rfl (mc M) _ hB1 48 (by rw [HmS.out]; omega) _ Try.underlying23 rfl size_a16 ?_; rw [E2.out]) | (with_reducible show wpList _ _ _ _ _ _; refine wpList_load_blk rfl 23 (.tmp 17) rfl (w.heap.size + 1) 2 rfl (mc M) _ hB2 48 (by rw [HmS.out]; omega) _ Try.underlying23 rfl size_a16 ?_; rw [E2.out]) | (with_reducible show wpList _ _ _ _ _ _; refine wpList_load_blk rfl 23 (.tmp 21) rfl w.heap.size 50 rfl (mc M) _ hB11 48 (by rw [HmS.out]; omega) _ Try.underlying23 rfl size_a16 ?_; rw [E50.out]) | (with_reducible show wpList _ _ _ _ _ _; refine wpList_load_blk rfl 23 (.tmp 23) rfl (w.heap.size + 1) 50 rfl (mc M) _ hB21 48 (by rw [HmS.out]; omega) _ Try.underlying23 rfl size_a16 ?_; rw [E50.out]) | (go_at_call 58; first | (have hgd := hb1; refine (eqByteA3A16_same C50 H50.out K50.out _).mono ?_; rintro e w2 ⟨rfl, hb2⟩) | (refine (eqByteA3A16_same C2 H2.out K2.out _).mono ?_; rintro e w1 ⟨rfl, hb1⟩; have hB11 := hB1.keptAll hb1; have hB21 := hB2.keptAll hb1)))
  go_ret
  exact ⟨rfl, below_step (below_step hbw hb1) hb2⟩
end Go.Proofs.Ytliohokcjgcmhaa
