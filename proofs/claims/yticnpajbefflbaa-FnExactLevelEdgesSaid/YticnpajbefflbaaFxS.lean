/- 'l05Code', 'FixedWords': the model. -/
import Derived.Test.YticnpajbefflbaaFxD
namespace Go.Proofs.Yticnpajbefflbaa
open Go.RowKit

set_option maxRecDepth 100000 in
set_option maxHeartbeats 1000000 in
theorem l05Code_calls (M : Mach) (hok : M.Ok) (n : Int) (w : World) :
    Calls Try.prog 47 #[.agg (mc M), .int .i64 n] w fun e w' => e = .returned (.int .i64 (gC M n [])) ∧ Below w.heap.size w w' := by
  have F1 : Hid (cut (mc M) 0 98 = mc M) := Lib.hid (cut_all _ _ (mc_size hok)); have F2 : Hid (0 + 98 ≤ (mc M).size) := Lib.hid (by rw [mc_size hok]; omega)
  have hB : Blk (w.alloc (.cells (mc M) 29)) w.heap.size (mc M) 29 := Blk.new w _ _
  have hbw0 : Below w.heap.size w (w.alloc (.cells (mc M) 29)) := by (repeat (first | exact Below.refl _ _ | refine below_drew' ?_ | refine below_drewN' ?_ _ | refine below_alloc' ?_ _ | refine below_set' ?_ (by (try simp); (try omega)) _ | refine below_step ?_ (by assumption)))
  have HI := Lib.hid (fun W => l01Is_calls M hok W)
  cases hm : isMach M
  · have Hr : Hid (gC M n [] = 1) := Lib.hid (by simp [gC, hm])
    rw [hm] at HI
    go_enter Try.func47, Try.ntmps47
    go_wp2_with (first | (with_reducible show wpList _ _ _ _ _ _; refine wpList_load_blk rfl 29 (.tmp 2) rfl w.heap.size 0 rfl (mc M) _ (hB) 98 F2.out _ Try.underlying29 rfl size_mach ?_; rw [F1.out]) | (go_at_call 75; refine (HI.out _).mono ?_; rintro e w1 ⟨rfl, hb1⟩))
    go_ret
    exact ⟨ret_int Hr.out.symm, below_step hbw0 hb1⟩
  · obtain ⟨L, S, hg⟩ := Good.of hok hm
    rw [hm] at HI
    have hcL := mc_L M
    rw [hg.hL] at hcL
    have hL2 := hg.L2
    have hL3 := hg.L3
    have HN := Lib.hid (fun W => l01In_calls n 0 (7 - (L : Int)) W)
    have hgl : gLev M n = decide (0 ≤ n ∧ n ≤ 7 - (L : Int)) := by unfold gLev; rw [hg.hL, Bool.decide_and]
    have hgc : gC M n [] = if gLev M n then 0 else 2 := by
      unfold gC
      rw [if_pos hm]
      cases gLev M n <;> simp [inK]
    rw [← hgl] at HN
    cases hl : gLev M n
    · rw [hl] at HN hgc
      have Hr : Hid (gC M n [] = 2) := Lib.hid (by rw [hgc]; rfl)
      clear hgc hgl hl
      go_enter Try.func47, Try.ntmps47
      go_wp2_with (first | (with_reducible show wpList _ _ _ _ _ _; refine wpList_load_blk rfl 29 (.tmp 2) rfl w.heap.size 0 rfl (mc M) _ (hB) 98 F2.out _ Try.underlying29 rfl size_mach ?_; rw [F1.out]) | (go_at_call 75; refine (HI.out _).mono ?_; rintro e w1 ⟨rfl, hb1⟩; have cA := (hB.keptAll hb1).cell 0; rw [hcL] at cA) | (go_at_call 48; refine (HN.out _).mono ?_; rintro e w' ⟨rfl, rfl⟩))
      go_ret
      exact ⟨ret_int Hr.out.symm, below_step hbw0 hb1⟩
    · rw [hl] at HN hgc
      have Hr : Hid (gC M n [] = 0) := Lib.hid (by rw [hgc]; rfl)
      clear hgc hgl hl
      go_enter Try.func47, Try.ntmps47
      go_wp2_with (first | (with_reducible show wpList _ _ _ _ _ _; refine wpList_load_blk rfl 29 (.tmp 2) rfl w.heap.size 0 rfl (mc M) _ (hB) 98 F2.out _ Try.underlying29 rfl size_mach ?_; rw [F1.out]) | (go_at_call 75; refine (HI.out _).mono ?_; rintro e w1 ⟨rfl, hb1⟩; have cA := (hB.keptAll hb1).cell 0; rw [hcL] at cA) | (go_at_call 48; refine (HN.out _).mono ?_; rintro e w' ⟨rfl, rfl⟩))
      go_ret
      exact ⟨ret_int Hr.out.symm, below_step hbw0 hb1⟩

end Go.Proofs.Yticnpajbefflbaa
namespace Go.Proofs.Yticnpajbefflbaa
theorem fxR_len (M : Mach) (hok : M.Ok) (n : Int) : (fxR M n).length ≤ 1048576 := by
  unfold fxR
  split
  · rename_i h
    obtain ⟨L, S, nn, hg, _, _⟩ := gC_good hok h
    rw [fxL_len, hg.hS, Int.toNat_natCast]
    have := hg.S16
    omega
  · simp
end Go.Proofs.Yticnpajbefflbaa
