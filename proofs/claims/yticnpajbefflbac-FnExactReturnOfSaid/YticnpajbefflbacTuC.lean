/- 'l06Cycle': the model. -/
import Derived.Test.YticnpajbefflbacTuS
namespace Go.Proofs.Yticnpajbefflbac
open Go.RowKit

set_option maxRecDepth 100000 in
set_option maxHeartbeats 2000000 in
theorem l06Cycle_calls (M : Mach) (L S : Nat) (l : List Bool) (hg : Good M L S) (hl : TuL M L S l) (v : Value) (zs : List Int) (hz : numsOk S zs = true) (hn : zs.length ≤ 40) (x : Nat) (hx : x < L) (w : World) (hv : SeesI w v zs) :
    Calls Try.prog 57 #[.agg (tuC M L S l), v, .int .u8 (x : Int)] w fun e w' => ∃ u, e = .returned u ∧ OwnN w' w.heap.size u (cyL (imN M zs) x (cyN (imN M zs) x)) ∧ Below w.heap.size w w' := by
  have hL3 := hg.L3
  have HSt := Lib.hid (cyN_step hL3 (imN_lt hg hz) (imN_inj hg hz) hx)
  have HLt := Lib.hid (itN_lt (imN_lt hg hz) hx)
  obtain ⟨n1, n3⟩ := cyN_bd (imN M zs) x
  have Hts := Lib.hid (tu_size hg hl)
  have Hc0 := Lib.hid (tu_cut0 hg hl)
  have Hc1 := Lib.hid (tu_cut1 hg hl)
  have hB : Blk (w.alloc (.cells (tuC M L S l) 59)) w.heap.size (tuC M L S l) 59 := Blk.new _ _ _
  have hB1 : Blk ((w.alloc (.cells (tuC M L S l) 59)).alloc (.cells #[.int .u8 (x : Int)] 5)) w.heap.size (tuC M L S l) 59 := hB.alloc _
  have hX1 : Blk ((w.alloc (.cells (tuC M L S l) 59)).alloc (.cells #[.int .u8 (x : Int)] 5)) (w.heap.size + 1) #[.int .u8 (x : Int)] 5 := Blk.new_at _ _ _ _ (by simp)
  have hO1 := OwnN.first (base := w.heap.size + 1) (by omega) hX1
  have hbw1 : Below w.heap.size w ((w.alloc (.cells (tuC M L S l) 59)).alloc (.cells #[.int .u8 (x : Int)] 5)) := by (repeat (first | exact Below.refl _ _ | refine below_drew' ?_ | refine below_drewN' ?_ _ | refine below_alloc' ?_ _ | refine below_set' ?_ (by (try simp); (try omega)) _ | refine below_step ?_ (by assumption)))
  have E1 : Hid (cyL (imN M zs) x (0 + 1) = [x]) := Lib.hid rfl
  obtain ⟨oa, ca, hve, _⟩ := hv.view
  subst hve
  have Hv := Lib.hid hv; clear hv
  have Hg := Lib.hid hg; clear hg
  have Hz := Lib.hid hz; clear hz
  generalize hNe : cyN (imN M zs) x = N at *
  clear hX1 hNe hB
  go_enter Try.func57, Try.ntmps57
  go_wp2
  rw [← E1.out] at hO1
  go_loopw [7] (fun lv wr => ∃ (j : Nat) (v0 : Value), j + 1 ≤ N ∧ v0 = lv ∧ OwnN wr (w.heap.size + 1) v0 (cyL (imN M zs) x (j + 1)) ∧ Blk wr w.heap.size (tuC M L S l) 59 ∧ Below w.heap.size w wr) (fun lv _ => 5 - lenOfV lv)
  case atStart => exact ⟨0, _, n1, rfl, hO1, hB1, hbw1⟩
  case round =>
    clear hO1 hB1 hbw1
    obtain ⟨j, v0, hj, rfl, hO, hB, hbw⟩ := hrel
    obtain ⟨g, cap, cur, hv0, hg0, hBg, hcu⟩ := hO.view (by rw [cyL_len]; omega)
    have hcl := cyL_len (imN M zs) x (j + 1)
    rw [hcl] at hv0
    subst hv0
    have hy := HLt.out j
    have c1 : cur[j]? = some (.int .u8 (itN (imN M zs) x j : Int)) := by rw [hcu j (by rw [hcl]; omega), cyL_at _ _ _ _ (by omega)]
    have Hst := Lib.hid (HSt.out (j + 1) (by omega) hj)
    have Hnx : Hid ((ledG M zs (itN (imN M zs) x j)).1 = itN (imN M zs) x (j + 1)) := Lib.hid rfl
    have Hsc := Lib.hid (cyL_succ (imN M zs) x (j + 1))
    have hy2 := HLt.out (j + 1)
    have hdr : Below wr.heap.size wr wr.drew := (Below.refl _ _).drew
    have hvr := (Hv.out.below hbw).below hdr
    have hOd := hO.below hdr
    have hbd := below_step hbw hdr
    generalize itN (imN M zs) x (j + 1) = y2 at *
    generalize itN (imN M zs) x j = y at *
    have hjj : (((j + 1 : Nat) : Int) - 1) = (j : Int) := by omega
    have hj3 : (j : Int) < 3 := by omega
    have hwr : IntKind.i64.wrap (j : Int) = (j : Int) := by simp [IntKind.wrap, IntKind.bits, IntKind.signed]; omega
    have hj1 : ¬ ((j : Int) < 0) := by omega
    go_wp2
    refine wp_region_held_drew (S := fun W => Blk W w.heap.size (tuC M L S l) 59 ∧ Blk W g cur 5) (by kernel_rfl) ⟨hB.drew, hBg.drew⟩ (fun hS0 => ?_)
    (refine hK_take 0 (.pointer (some ⟨w.heap.size, 0, none⟩)) rfl (by kernel_rfl) (by kernel_rfl) (by kernel_rfl) (fun _ _ _ h => h) rfl (fun W _ => by go_simp) hS0 ?_; (intro K hK; go_simp; refine hK _ ?_; clear hK K))
    (refine hK_load 1 rfl (by kernel_rfl) (by kernel_rfl) (by kernel_rfl) 29 _ rfl (w.heap.size) 0 rfl (tuC M L S l) _ (fun W hW => hW.1) 98 ((by rw [Hts.out]; omega)) _ Try.underlying29 rfl size_mach _ (Hc0.out) (fun _ _ _ h => h) rfl hS0 ?_; (intro K hK; go_simp; refine hK _ ?_; clear hK K))
    (refine hK_take 2 (.pointer (some ⟨w.heap.size, 98, none⟩)) rfl (by kernel_rfl) (by kernel_rfl) (by kernel_rfl) (fun _ _ _ h => h) rfl (fun W _ => by go_simp) hS0 ?_; (intro K hK; go_simp; refine hK _ ?_; clear hK K))
    refine hK_load 3 rfl (by kernel_rfl) (by kernel_rfl) (by kernel_rfl) 29 _ rfl w.heap.size 98 rfl (tuC M L S l) _ (fun W hW => hW.1) 98 (by rw [Hts.out]; omega) _ Try.underlying29 rfl size_mach _ Hc1.out (fun _ _ _ h => h) rfl hS0 ?_; (intro K hK; go_simp; refine hK _ ?_; clear hK K)
    (refine hK_take 4 (.slice oa zs.length ca) rfl (by kernel_rfl) (by kernel_rfl) (by kernel_rfl) (fun _ _ _ h => h) rfl (fun W _ => by go_simp) hS0 ?_; (intro K hK; go_simp; refine hK _ ?_; clear hK K))
    (refine hK_take 5 (.slice (some ⟨g, 0, none⟩) (j + 1) cap) rfl (by kernel_rfl) (by kernel_rfl) (by kernel_rfl) (fun _ _ _ h => h) rfl (fun W _ => by go_simp) hS0 ?_; (intro K hK; go_simp; refine hK _ ?_; clear hK K))
    (refine hK_take 6 (.slice (some ⟨g, 0, none⟩) (j + 1) cap) rfl (by kernel_rfl) (by kernel_rfl) (by kernel_rfl) (fun _ _ _ h => h) rfl (fun W _ => by go_simp) hS0 ?_; (intro K hK; go_simp; refine hK _ ?_; clear hK K))
    (refine hK_take 7 (.int .i64 ((j : Int) + 1)) rfl (by kernel_rfl) (by kernel_rfl) (by kernel_rfl) (fun _ _ _ h => h) rfl (fun W _ => by go_simp) hS0 ?_; (intro K hK; go_simp; refine hK _ ?_; clear hK K))
    refine hK_take 8 (.int .i64 (j : Int)) rfl (by kernel_rfl) (by kernel_rfl) (by kernel_rfl) (fun _ _ _ h => h) rfl (fun W _ => by simp [go_sem, hwr]) hS0 ?_; (intro K hK; go_simp; refine hK _ ?_; clear hK K)
    refine hK_take 9 (.pointer (some ⟨g, j, none⟩)) rfl (by kernel_rfl) (by kernel_rfl) (by kernel_rfl) (fun _ _ _ h => h) rfl (fun W _ => by simp [go_sem]; intro h; omega) hS0 ?_; (intro K hK; go_simp; refine hK _ ?_; clear hK K)
    refine hK_take 10 (.int .u8 (y : Int)) rfl (by kernel_rfl) (by kernel_rfl) (by kernel_rfl) (fun _ _ _ h => h) rfl (fun W hW => by have := hW.2.cell j; rw [c1] at this; simp [go_sem, this]) hS0 ?_; (intro K hK; go_simp; refine hK _ ?_; clear hK K)
    (refine wpAnyH_ready (rs := [11]) (by kernel_rfl) (by simp) ?_; refine AllReadyH.cons rfl (fun K hK => ?_) AllReadyH.nil); go_simp; refine (l02Led_calls M L S Hg.out _ zs Hz.out (by omega) y hy _ hvr).mono ?_; rintro e w3 ⟨v3, rfl, hO3, hb3⟩; rw [Hnx.out]
    have hS1 : Blk w3 w.heap.size (tuC M L S l) 59 ∧ Blk w3 g cur 5 := ⟨hS0.1.keptAll hb3, hS0.2.keptAll hb3⟩
    have hON := hOd.below hb3
    have hbw3 := below_step hbd hb3
    (go_simp; refine hK.out _ _ (hS1) (fun hS2 => ?_); clear hK K)
    (refine hK_take 12 (.tuple #[.int .u8 (y2 : Int), v3]) rfl (by kernel_rfl) (by kernel_rfl) (by kernel_rfl) (fun _ _ _ h => h) rfl (fun W _ => by go_simp) hS2 ?_; (intro K hK; go_simp; refine hK _ ?_; clear hK K))
    (refine hK_take 13 (.int .u8 (y2 : Int)) rfl (by kernel_rfl) (by kernel_rfl) (by kernel_rfl) (fun _ _ _ h => h) rfl (fun W _ => by go_simp) hS2 ?_; (intro K hK; go_simp; refine hK _ ?_; clear hK K))
    (refine hK_take 14 (v3) rfl (by kernel_rfl) (by kernel_rfl) (by kernel_rfl) (fun _ _ _ h => h) rfl (fun W _ => by go_simp) hS2 ?_; (intro K hK; go_simp; refine hK _ ?_; clear hK K))
    (refine hK_take 15 (.int .u8 (y2 : Int)) rfl (by kernel_rfl) (by kernel_rfl) (by kernel_rfl) (fun _ _ _ h => h) rfl (fun W _ => by go_simp) hS2 ?_; (intro K hK; go_simp; refine hK _ ?_; clear hK K))
    (refine hK_take 16 (v3) rfl (by kernel_rfl) (by kernel_rfl) (by kernel_rfl) (fun _ _ _ h => h) rfl (fun W _ => by go_simp) hS2 ?_; (intro K hK; go_simp; refine hK _ ?_; clear hK K))
    refine wpAnyH_done (by kernel_rfl) ?_ _
    obtain ⟨hT3, hG3⟩ := hS2
    have hltT := hT3.lt
    by_cases hN : j + 1 = N
    · have hyx : y2 = x := Hst.out.mpr hN
      subst hN
      subst hyx
      go_wp2
      go_ret
      exact ⟨_, rfl, hON.base_le (by omega), hbw3⟩
    · have hyx : ¬ y2 = x := fun e => hN (Hst.out.mp e)
      have hbne : ((y2 : Int) == (x : Int)) = false := by simp; omega
      clear hyx
      go_wp2_with (at_builtin; refine wpList_push_letter 67 Try.underlying67 rfl (.tmp 31) (.tmp 33) rfl (w.heap.size + 1) _ (cyL (imN M zs) x (j + 1)) rfl (hON.below (below_alloc' (Below.refl _ _) _)) w3.heap.size 1 y2 rfl (Blk.new w3 _ _) (by rw [hcl]; omega) (by simp; omega) ?_; intro v1 w7 hO7 hb7 hs7; have hB7 : Blk w7 w.heap.size (tuC M L S l) 59 := (hs7 w.heap.size (by simp; omega) (fun e => by have := (hON.lt _ e.symm).1; omega)).trans (hT3.alloc (.cells #[.int .u8 (y2 : Int)] 5)))
      obtain ⟨g1, cap1, cur1, hv1, _⟩ := hO7.view (by simp)
      rw [List.length_append, hcl, List.length_singleton] at hv1
      subst hv1
      rw [← Hsc.out] at hO7
      go_roundw
      case rel => exact ⟨j + 1, _, by omega, rfl, hO7, hB7, (below_alloc' hbw3 _).trans (below_le hb7 (by omega))⟩
      case measure => simp [lenOfV] <;> omega
end Go.Proofs.Yticnpajbefflbac
