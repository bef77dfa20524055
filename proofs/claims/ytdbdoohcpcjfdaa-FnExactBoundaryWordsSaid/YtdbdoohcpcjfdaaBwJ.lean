/- 'BoundaryWords': the program. -/
import Derived.Test.YtdbdoohcpcjfdaaBwI
namespace Go.Proofs.Ytdbdoohcpcjfdaa
open Go.RowKit

set_option maxRecDepth 100000 in
set_option maxHeartbeats 4000000 in
theorem iBoundaryWords_calls (M : Mach) (hok : M.Ok) (n : Int) (w : World) :
    Calls Try.prog 21 #[.agg (mc M), .int .i64 n] w fun e w' => ∃ v, e = .returned (.tuple #[v, .int .i64 (gCv M n)]) ∧ OwnI w' w.heap.size v (bwR M n) ∧ Below w.heap.size w w' := by
  have F1 : Hid (cut (mc M) 0 98 = mc M) := Lib.hid (cut_all _ _ (mc_size hok)); have F2 : Hid (0 + 98 ≤ (mc M).size) := Lib.hid (by rw [mc_size hok]; omega)
  have hB : Blk (w.alloc (.cells (mc M) 28)) w.heap.size (mc M) 28 := Blk.new w _ _
  have hbw0 : Below w.heap.size w (w.alloc (.cells (mc M) 28)) := by (repeat (first | exact Below.refl _ _ | refine below_drew' ?_ | refine below_drewN' ?_ _ | refine below_alloc' ?_ _ | refine below_set' ?_ (by (try simp); (try omega)) _ | refine below_step ?_ (by assumption)))
  have HI := Lib.hid (fun W => IsMachine_calls M hok W)
  cases hm : isMach M
  · have Hc : Hid (gCv M n = 1) := Lib.hid (by simp [gCv, hm])
    have Hr : Hid (bwR M n = []) := Lib.hid (by unfold bwR; rw [Hc.out]; rfl)
    rw [hm] at HI
    rw [Hr.out]
    go_enter Try.func21, Try.ntmps21
    go_wp2_with (first | (with_reducible show wpList _ _ _ _ _ _; refine wpList_load_blk rfl 28 (.tmp 2) rfl w.heap.size 0 rfl (mc M) _ (hB) 98 F2.out _ Try.underlying28 rfl size_mach ?_; rw [F1.out]) | (go_at_call 37; refine (HI.out _).mono ?_; rintro e w1 ⟨rfl, hb1⟩))
    go_ret2
    exact ⟨_, ret_li' Hc.out.symm, OwnI.nil _ _, below_step hbw0 hb1⟩
  · obtain ⟨L, S, hg⟩ := Good.of hok hm
    rw [hm] at HI
    have hcL := mc_L M
    rw [hg.hL] at hcL
    have HcL := Lib.hid hcL
    have HG := Lib.hid (fun W => isGraphLevel_lv L hg.L23 n W)
    rw [show (decide (0 ≤ n) && decide (n ≤ 7 - (L : Int))) = gLv M n by unfold gLv; rw [hg.hL]] at HG
    have hgc : gCv M n = if gLv M n then 0 else 2 := by
      unfold gCv
      rw [if_pos hm]
    clear hcL
    cases hl : gLv M n
    · rw [hl] at hgc HG
      have Hc : Hid (gCv M n = 2) := Lib.hid hgc
      have Hr : Hid (bwR M n = []) := Lib.hid (by unfold bwR; rw [Hc.out]; rfl)
      rw [Hr.out]
      clear hgc hm hl
      go_enter Try.func21, Try.ntmps21
      go_wp2_with (first | (with_reducible show wpList _ _ _ _ _ _; refine wpList_load_blk rfl 28 (.tmp 2) rfl w.heap.size 0 rfl (mc M) _ (hB) 98 F2.out _ Try.underlying28 rfl size_mach ?_; rw [F1.out]) | (go_at_call 37; refine (HI.out _).mono ?_; rintro e w1 ⟨rfl, hb1⟩; have cM1 := (hB.keptAll hb1).cell 0; rw [HcL.out] at cM1) | (go_at_call 45; refine (HG.out _).mono ?_; rintro e w' ⟨rfl, rfl⟩))
      go_ret2
      exact ⟨_, ret_li' Hc.out.symm, OwnI.nil _ _, below_step hbw0 hb1⟩
    · rw [hl] at hgc HG
      have hc : gCv M n = 0 := hgc
      obtain ⟨nk, rfl, h7⟩ := gLv_nat hg hl
      have Hc := Lib.hid hc
      have Hr := Lib.hid (bwR_good hg hc)
      have hL2 := hg.L2
      have Hwh := Lib.hid (nwF_whK (bdU M L S S) L nk hg.L23)
      have HN := Lib.hid (fun ga W hf => numbersWhereB_calls L nk hg.L23 (by omega) (bdU M L S S) ga W hf)
      have HR := Lib.hid (fun g s hs hl W h1 => isBoundary_calls M L S hg g s hs hl W h1)
      rw [Hr.out, ← Hwh.out]
      clear hgc hc hm hl
      go_enter Try.func21, Try.ntmps21
      go_wp2_with (first | (with_reducible show wpList _ _ _ _ _ _; refine wpList_load_blk rfl 28 (.tmp 2) rfl w.heap.size 0 rfl (mc M) _ (hB) 98 F2.out _ Try.underlying28 rfl size_mach ?_; rw [F1.out]) | (go_at_call 37; refine (HI.out _).mono ?_; rintro e w1 ⟨rfl, hb1⟩; have hB1 := hB.keptAll hb1; have cM1 := hB1.cell 0; rw [HcL.out] at cM1) | (go_at_call 45; refine (HG.out _).mono ?_; rintro e w' ⟨rfl, rfl⟩))
      have hdr : Below w1.heap.size w1 w1.drew := (Below.refl _ _).drew
      have hbd := below_step (below_step hbw0 hb1) hdr
      refine wp_region_held_drew (S := fun W => Blk W w.heap.size (mc M) 28) (by kernel_rfl) hB1.drew (fun hS0 => ?_)
      (refine hK_take 0 (.pointer (some ⟨w.heap.size, 0, none⟩)) rfl (by kernel_rfl) (by kernel_rfl) (by kernel_rfl) (fun _ _ _ h => h) rfl (fun W _ => by go_simp) hS0 ?_; (intro K hK; go_simp; refine hK _ ?_; clear hK K))
      (refine hK_take 1 (.int .i64 (L : Int)) rfl (by kernel_rfl) (by kernel_rfl) (by kernel_rfl) (fun _ _ _ h => h) rfl (fun W hW => by have c1 := Blk.cell hW 0; rw [HcL.out] at c1; clear hW; go_simp) hS0 ?_; (intro K hK; go_simp; refine hK _ ?_; clear hK K))
      (refine hK_take 2 (.int .i64 (nk : Int)) rfl (by kernel_rfl) (by kernel_rfl) (by kernel_rfl) (fun _ _ _ h => h) rfl (fun W _ => by go_simp) hS0 ?_; (intro K hK; go_simp; refine hK _ ?_; clear hK K))
      (refine hK_load 3 rfl (by kernel_rfl) (by kernel_rfl) (by kernel_rfl) 28 _ rfl (w.heap.size) 0 rfl (mc M) _ (fun W hW => hW) 98 (F2.out) _ Try.underlying28 rfl size_mach _ (F1.out) (fun _ _ _ h => h) rfl hS0 ?_; (intro K hK; go_simp; refine hK _ ?_; clear hK K))
      (refine wpAnyH_ready (rs := [4]) (by kernel_rfl) (by simp) ?_; refine AllReadyH.cons rfl (fun K hK => ?_) AllReadyH.nil); go_simp; refine (sectionsOf_calls M L S hg _).mono ?_; rintro e w3 ⟨g, rfl, hge, hG3, hb3⟩; have hB3 : Blk w3 _ _ _ := Blk.keptAll hS0 hb3; have hbw3 := below_step hbd hb3
      (go_simp; refine hK.out _ _ (hB3) (fun hS1 => ?_); clear hK K)
      (refine hK_take 5 (.func (.func 49) #[.pointer (some ⟨g, 0, none⟩)] #[]) rfl (by kernel_rfl) (by kernel_rfl) (by kernel_rfl) (fun _ _ _ h => h) rfl (fun W _ => by go_simp) hS1 ?_; (intro K hK; go_simp; refine hK _ ?_; clear hK K))
      (refine wpAnyH_ready (rs := [6]) (by kernel_rfl) (by simp) ?_; refine AllReadyH.cons rfl (fun K hK => ?_) AllReadyH.nil); go_simp; refine (HN.out g _ (fun x W hbW hxn hxl => HR.out g x (by rw [size_list x]; omega) hxl W (hG3.keptAll hbW))).mono ?_; rintro e w5 ⟨v5, rfl, hO5, hb5⟩; have hB5 : Blk w5 _ _ _ := Blk.keptAll hB3 hb5; have hbw5 := below_step hbw3 hb5
      (go_simp; refine hK.out _ _ (hB5) (fun hS2 => ?_); clear hK K)
      (refine hK_take 7 (v5) rfl (by kernel_rfl) (by kernel_rfl) (by kernel_rfl) (fun _ _ _ h => h) rfl (fun W _ => by go_simp) hS2 ?_; (intro K hK; go_simp; refine hK _ ?_; clear hK K))
      (refine hK_take 8 (.int .i64 0) rfl (by kernel_rfl) (by kernel_rfl) (by kernel_rfl) (fun _ _ _ h => h) rfl (fun W _ => by go_simp) hS2 ?_; (intro K hK; go_simp; refine hK _ ?_; clear hK K))
      refine wpAnyH_done (by kernel_rfl) ?_ _
      go_wp2
      go_ret2
      exact ⟨_, ret_li' Hc.out.symm, hO5.base_le' (by have := hbw3.size; omega), hbw5⟩
end Go.Proofs.Ytdbdoohcpcjfdaa
