/- 'PermutationOf': the model. -/
import Derived.Test.YticnpajbefflbaaPerG
namespace Go.Proofs.Yticnpajbefflbaa
open Go.RowKit

set_option maxRecDepth 100000 in
set_option maxHeartbeats 1000000 in
theorem l02Level_calls (M : Mach) (L S : Nat) (hg : Good M L S) (v : Value) (zs : List Int) (hz : numsOk S zs = true) (h40 : zs.length ≤ 40) (n : Nat) (hn : n ≤ 5) (w : World) (hv : SeesI w v zs) :
    Calls Try.prog 33 #[.agg (mc M), v, .int .i64 n] w fun e w' => ∃ vr, e = .returned vr ∧ OwnI w' w.heap.size vr (permG M zs L n) ∧ Below w.heap.size w w' := by
  have hok := hg.ok
  have hL23 := hg.L23
  have hL3 := hg.L3
  have hcL := mc_L M
  rw [hg.hL] at hcL
  have hIok := invM_ok hok L S hL3
  have hp := pw_bd L n hL3 hn
  have hpw : pw L n = ((L ^ n : Nat) : Int) := rfl
  obtain ⟨N, hN⟩ : ∃ N : Nat, L ^ n = N := ⟨_, rfl⟩
  rw [hN] at hpw
  have hN1 : N ≤ 243 := by omega
  have HN := Lib.hid hN
  clear hN
  have F1 : Hid (cut (mc M) 0 98 = mc M) := Lib.hid (cut_all _ _ (mc_size hok)); have F2 : Hid (0 + 98 ≤ (mc M).size) := Lib.hid (by rw [mc_size hok]; omega)
  have hB : Blk (w.alloc (.cells (mc M) 29)) w.heap.size (mc M) 29 := Blk.new w _ _
  have F3 : Hid (cut (mc (invM M L S)) 0 98 = mc (invM M L S)) := Lib.hid (cut_all _ _ (mc_size hIok))
  have F4 : Hid (0 + 98 ≤ (mc (invM M L S)).size) := Lib.hid (by rw [mc_size hIok]; omega)
  have hzs : (mc zeroM).size = 98 := mc_size zeroM_ok
  have F5 : Hid (0 + (mc (invM M L S)).size ≤ (mc zeroM).size) := Lib.hid (by rw [hzs, mc_size hIok]; omega)
  have F6 : Hid ((Try.prog.info? 29).map (·.size) = some (mc (invM M L S)).size) := Lib.hid (by rw [mc_size hIok]; exact size_mach)
  have F7 : Hid ((mc (invM M L S)).all (·.oneCell') = true) := Lib.hid (mc_one _)
  have F8 : Hid (over (mc zeroM) 0 (mc (invM M L S)) = mc (invM M L S)) := Lib.hid (over_all _ _ (by rw [hzs, mc_size hIok]))
  have hz0 := zero_mach
  have hbw0 : Below w.heap.size w (w.alloc (.cells (mc M) 29)) := by (repeat (first | exact Below.refl _ _ | refine below_drew' ?_ | refine below_drewN' ?_ _ | refine below_alloc' ?_ _ | refine below_set' ?_ (by (try simp); (try omega)) _ | refine below_step ?_ (by assumption)))
  have Hv := Lib.hid hv
  have HZ := Lib.hid hz
  obtain ⟨oa, cap, hve, hvc⟩ := hv.view
  subst hve
  clear hv hz hvc hzs
  go_enter Try.func33, Try.ntmps33
  go_wp2_with (first | (with_reducible show wpList _ _ _ _ _ _; refine wpList_load_blk rfl 29 (.tmp 3) rfl w.heap.size 0 rfl (mc M) _ (hB) 98 F2.out _ Try.underlying29 rfl size_mach ?_; rw [F1.out]) | (go_at_call 44; refine (l01Inverse_calls M L S hg _).mono ?_; rintro e w1 ⟨rfl, hb1⟩; have hB1 := hB.keptAll hb1; have hbw1 := below_step hbw0 hb1; have hlt1 := hB1.lt; have hB2 := (hB1.alloc (.cells #[] 2)).alloc (.cells (mc zeroM) 29); have hZ2 : Blk ((w1.alloc (.cells #[] 2)).alloc (.cells (mc zeroM) 29)) (w1.heap.size + 1) (mc zeroM) 29 := Blk.new_at _ _ _ _ (by simp); have hE2 : Blk ((w1.alloc (.cells #[] 2)).alloc (.cells (mc zeroM) 29)) w1.heap.size #[] 2 := (Blk.new w1 _ _).alloc _; have hbw2 : Below w.heap.size w ((w1.alloc (.cells #[] 2)).alloc (.cells (mc zeroM) 29)) := below_alloc' (below_alloc' hbw1 _) _) | (with_reducible show wpList _ _ _ _ _ _; refine wpList_store_blk rfl 29 (.tmp 7) (.tmp 13) rfl (w1.heap.size + 1) 0 (mc (invM M L S)) rfl rfl (mc zeroM) 29 hZ2 F5.out F6.out F7.out ?_; intro w3 hI3 hkeep hsz hbl; rw [F8.out] at hI3; have hB3 := hkeep _ _ _ (by omega) hB2; have hbw3 := hbl _ _ (by omega) hbw2; have cA := hB3.cell; have hE3 := hkeep w1.heap.size #[] 2 (by omega) hE2; clear hkeep hbl hsz))
  have hge : w.heap.size + 1 ≤ w1.heap.size := by omega
  have hO3 : OwnI w3 (w.heap.size + 1) (.slice (some ⟨w1.heap.size, 0, none⟩) 0 0) [] := OwnI.made rfl (by unfold maxLen; omega) hge hE3
  clear hB hbw0 hB1 hbw1 hB2 hZ2 hE2 hE3 hbw2 F5 F6 F7 F8 hz0 hb1 hlt1
  generalize w1.heap.size = h1 at *
  go_loopw [8, 9] (fun ov i wr => ∃ (k : Nat) (v0 : Value), k ≤ N ∧ i = .int .i64 k ∧ v0 = ov ∧ Blk wr w.heap.size (mc M) 29 ∧ Blk wr (h1 + 1) (mc (invM M L S)) 29 ∧ OwnI wr (w.heap.size + 1) v0 (permGK M zs L n k) ∧ Below w.heap.size w wr) (fun _ i _ => N - (intOf i).toNat)
  case atStart => exact ⟨0, _, by omega, rfl, rfl, hB3, hI3, by simpa [permGK] using hO3, hbw3⟩
  case round =>
    clear hB3 hI3 hO3 hbw3 cA
    obtain ⟨k, v0, hk, rfl, rfl, hB, hI, hO, hbw⟩ := hrel
    have cA := hB.cell
    by_cases hlt : k < N
    · have hkp : (k : Int) < pw L n := by rw [hpw]; omega
      obtain ⟨hWs, hWl⟩ := wordOf_at L n k hL23 hn
      obtain ⟨a1, a2, a3, a4⟩ := actG_all hg zs HZ.out (wordOf L n k) hWl
      have hrs : (actG M zs (wordOf L n k)).1.length ≤ 5 := by rw [a1, length_wordOf]; exact hn
      have Hsn := Lib.hid (permGK_snoc M zs L n k)
      have Hln := Lib.hid (permGK_len M zs L n k)
      have Hat : Hid (numI L (actG M zs (wordOf L n k)).1 = permGat M zs L n k) := Lib.hid rfl
      clear a1 a3 a4
      go_wp2_with (go_at_call 55; refine (l01Power_calls L n hL3 hn _).mono ?_; rintro e w' ⟨rfl, rfl⟩)
      have hdr : Below wr.heap.size wr wr.drew := (Below.refl _ _).drew
      have hvd := (Hv.out.below hbw).below hdr
      have hOd := hO.below hdr
      have hbd := below_step hbw hdr
      refine wp_region_held_drew (S := fun W => Blk W w.heap.size (mc M) 29 ∧ Blk W (h1 + 1) (mc (invM M L S)) 29) (by kernel_rfl) ⟨hB.drew, hI.drew⟩ (fun hS0 => ?_)
      (refine hK_load 0 rfl (by kernel_rfl) (by kernel_rfl) (by kernel_rfl) 29 _ rfl (w.heap.size) 0 rfl (mc M) _ (fun W hW => hW.1) 98 (F2.out) _ Try.underlying29 rfl size_mach _ (F1.out) (fun _ _ _ h => h) rfl hS0 ?_; (intro K hK; go_simp; refine hK _ ?_; clear hK K))
      (refine hK_load 1 rfl (by kernel_rfl) (by kernel_rfl) (by kernel_rfl) 29 _ rfl (h1 + 1) 0 rfl (mc (invM M L S)) _ (fun W hW => hW.2) 98 (F4.out) _ Try.underlying29 rfl size_mach _ (F3.out) (fun _ _ _ h => h) rfl hS0 ?_; (intro K hK; go_simp; refine hK _ ?_; clear hK K))
      (refine hK_take 2 (.slice oa zs.length cap) rfl (by kernel_rfl) (by kernel_rfl) (by kernel_rfl) (fun _ _ _ h => h) rfl (fun W _ => by go_simp) hS0 ?_; (intro K hK; go_simp; refine hK _ ?_; clear hK K))
      (refine hK_take 3 (.pointer (some ⟨w.heap.size, 0, none⟩)) rfl (by kernel_rfl) (by kernel_rfl) (by kernel_rfl) (fun _ _ _ h => h) rfl (fun W _ => by go_simp) hS0 ?_; (intro K hK; go_simp; refine hK _ ?_; clear hK K))
      (refine hK_take 4 (.int .i64 L) rfl (by kernel_rfl) (by kernel_rfl) (by kernel_rfl) (fun _ _ _ h => h) rfl (fun W hW => by have c0 := hW.1.cell 0; rw [hcL] at c0; clear hW; go_simp) hS0 ?_; (intro K hK; go_simp; refine hK _ ?_; clear hK K))
      (refine hK_take 5 (.int .i64 (n : Int)) rfl (by kernel_rfl) (by kernel_rfl) (by kernel_rfl) (fun _ _ _ h => h) rfl (fun W _ => by go_simp) hS0 ?_; (intro K hK; go_simp; refine hK _ ?_; clear hK K))
      (refine hK_take 6 (.int .i64 (k : Int)) rfl (by kernel_rfl) (by kernel_rfl) (by kernel_rfl) (fun _ _ _ h => h) rfl (fun W _ => by go_simp) hS0 ?_; (intro K hK; go_simp; refine hK _ ?_; clear hK K))
      (refine wpAnyH_ready (rs := [7]) (by kernel_rfl) (by simp) ?_; refine AllReadyH.cons rfl (fun K hK => ?_) AllReadyH.nil); go_simp; refine (l01WordOf_calls L hL23 n n k _ hn (by omega) (by omega) (by omega) (by omega)).mono ?_; rintro e w4 ⟨rfl, hb4⟩; have hB4 := hS0.1.keptAll hb4; have hI4 := hS0.2.keptAll hb4; have hv4 := hvd.below hb4; have hO4 := hOd.below hb4; have hbw4 := below_step hbd hb4; rw [Int.toNat_natCast]
      (go_simp; refine hK.out _ _ (⟨hB4, hI4⟩) (fun hS1 => ?_); clear hK K)
      (refine wpAnyH_ready (rs := [8]) (by kernel_rfl) (by simp) ?_; refine AllReadyH.cons rfl (fun K hK => ?_) AllReadyH.nil); go_simp; refine (l02Act_calls M L S hg _ zs HZ.out h40 ⟨(wordOf L n k).toArray⟩ hWs hWl _ hv4).mono ?_; rintro e w5 ⟨v5, rfl, hO5, hb5⟩; have hB5 := hB4.keptAll hb5; have hI5 := hI4.keptAll hb5; have hOO := hO4.below hb5; have hbw5 := below_step hbw4 hb5
      (go_simp; refine hK.out _ _ (⟨hB5, hI5⟩) (fun hS2 => ?_); clear hK K)
      (refine hK_take 9 (.tuple #[.string ⟨(actG M zs (wordOf L n k)).1.toArray⟩, v5]) rfl (by kernel_rfl) (by kernel_rfl) (by kernel_rfl) (fun _ _ _ h => h) rfl (fun W _ => by go_simp) hS2 ?_; (intro K hK; go_simp; refine hK _ ?_; clear hK K))
      (refine hK_take 10 (.string ⟨(actG M zs (wordOf L n k)).1.toArray⟩) rfl (by kernel_rfl) (by kernel_rfl) (by kernel_rfl) (fun _ _ _ h => h) rfl (fun W _ => by go_simp) hS2 ?_; (intro K hK; go_simp; refine hK _ ?_; clear hK K))
      (refine hK_take 11 (v5) rfl (by kernel_rfl) (by kernel_rfl) (by kernel_rfl) (fun _ _ _ h => h) rfl (fun W _ => by go_simp) hS2 ?_; (intro K hK; go_simp; refine hK _ ?_; clear hK K))
      (refine hK_take 12 (.string ⟨(actG M zs (wordOf L n k)).1.toArray⟩) rfl (by kernel_rfl) (by kernel_rfl) (by kernel_rfl) (fun _ _ _ h => h) rfl (fun W _ => by go_simp) hS2 ?_; (intro K hK; go_simp; refine hK _ ?_; clear hK K))
      (refine hK_take 13 (v5) rfl (by kernel_rfl) (by kernel_rfl) (by kernel_rfl) (fun _ _ _ h => h) rfl (fun W _ => by go_simp) hS2 ?_; (intro K hK; go_simp; refine hK _ ?_; clear hK K))
      refine wpAnyH_done (by kernel_rfl) ?_ _
      have cA5 := hB5.cell
      have hsz5 := hbw5.size
      have hlt5 := hB5.lt
      have hlt6 := hI5.lt
      clear hB hI hO hbw cA hS0 hS1 hS2 hB4 hI4 hO4 hbw4 hb4 hvd hOd hbd hdr hO5 hb5 hv4
      go_wp2_with (first | (go_at_call 59; refine (l01NumberOf_calls L ⟨(actG M zs (wordOf L n k)).1.toArray⟩ hL3 hrs a2 _).mono ?_; rintro e w' ⟨rfl, rfl⟩; rw [Hat.out]) | (at_builtin; refine wpList_push_int_x rfl (.tmp 35) (.tmp 40) rfl (w.heap.size + 1) _ (permGK M zs L n k) rfl (hOO.below (Below.alloc (Below.refl _ _) (Nat.le_refl _) (.cells #[.int .i64 (permGat M zs L n k)] 2))) w5.heap.size 1 (permGat M zs L n k) rfl (Blk.new w5 _ _) (by rw [Hln.out]; omega) (by simp; omega) ?_; intro v6 w6 hO6 hb6 hkp6; have hB6 := (hB5.alloc (.cells #[.int .i64 (permGat M zs L n k)] 2)).kept hb6 (by omega); have hI6 := hkp6.blk (hI5.alloc (.cells #[.int .i64 (permGat M zs L n k)] 2)) (hOO.below (Below.alloc (Below.refl _ _) (Nat.le_refl _) (.cells #[.int .i64 (permGat M zs L n k)] 2)))))
      go_roundw
      case rel => exact ⟨k + 1, _, by omega, by go_num, rfl, hB6, hI6, by rw [Hsn.out]; exact hO6, (hbw5.alloc hbw5.size _).trans (below_le hb6 (by omega))⟩
      case measure => simp [intOf] <;> omega
    · obtain rfl : k = N := by omega
      have hkp : ¬ (k : Int) < pw L n := by rw [hpw]; omega
      go_wp2_with (go_at_call 55; refine (l01Power_calls L n hL3 hn _).mono ?_; rintro e w' ⟨rfl, rfl⟩)
      go_ret
      have he : permG M zs L n = permGK M zs L n k := by unfold permG; rw [HN.out]
      exact ⟨_, rfl, by rw [he]; exact hO.base_le (by omega), hbw⟩
end Go.Proofs.Yticnpajbefflbaa
