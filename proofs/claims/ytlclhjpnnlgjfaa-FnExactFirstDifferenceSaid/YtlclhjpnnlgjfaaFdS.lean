/- 'FirstDifference': the model. -/
import Derived.Test.YtlclhjpnnlgjfaaFdG
namespace Go.Proofs.Ytlclhjpnnlgjfaa
open Go.RowKit

set_option maxRecDepth 100000 in
set_option maxHeartbeats 2000000 in
theorem sFirst_good (M : Mach) (L S : Nat) (z1 z2 : List Int) (ht : Twos M z1 z2 L S) (h2 : two M z1 z2 = true) (v1 v2 : Value) (w : World) (hv1 : SeesI w v1 z1) (hv2 : SeesI w v2 z2) :
    Calls Try.prog 18 #[.agg (mc M), v1, v2] w fun e w' => e = .returned (.tuple #[.string (wordR (fdN M z1 z2 L 0 6)), .int .i64 (wordC (fdN M z1 z2 L 0 6))]) ∧ Below w.heap.size w w' := by
  have hg := ht.g
  have hok := hg.ok
  have hL23 := hg.L23
  have hL3 := hg.L3
  have hcL := mc_L M
  rw [hg.hL] at hcL
  have hIok := invM_ok hok L S hL3
  have F1 : Hid (cut (mc M) 0 98 = mc M) := Lib.hid (cut_all _ _ (mc_size hok)); have F2 : Hid (0 + 98 ≤ (mc M).size) := Lib.hid (by rw [mc_size hok]; omega)
  have hB : Blk (w.alloc (.cells (mc M) 29)) w.heap.size (mc M) 29 := Blk.new w _ _
  have F3 : Hid (cut (mc (invM M L S)) 0 98 = mc (invM M L S)) := Lib.hid (cut_all _ _ (mc_size hIok))
  have F4 : Hid (0 + 98 ≤ (mc (invM M L S)).size) := Lib.hid (by rw [mc_size hIok]; omega)
  have hzs : (mc zeroM).size = 98 := mc_size zeroM_ok
  have F5 : Hid (0 + (mc (invM M L S)).size ≤ (mc zeroM).size) := Lib.hid (by rw [hzs, mc_size hIok]; omega)
  have F6 : Hid ((Try.prog.info? 29).map (·.size) = some (mc (invM M L S)).size) := Lib.hid (by rw [mc_size hIok]; exact size_mach)
  have F7 : Hid ((mc (invM M L S)).all (·.oneCell') = true) := Lib.hid (mc_one _)
  have F8 : Hid (over (mc zeroM) 0 (mc (invM M L S)) = mc (invM M L S)) := Lib.hid (over_all _ _ (by rw [hzs, mc_size hIok]))
  have hz0 := zero_mach
  have hbw0 : Below w.heap.size w (w.alloc (.cells (mc M) 29)) := by (repeat (first | exact Below.refl _ _ | refine below_drew' ?_ | refine below_drewN' ?_ _ | refine below_alloc' ?_ _ | refine below_set' ?_ (by (try simp); (try omega)) _ | refine below_step ?_ (by assumption)))
  have hL1 := seesL2 (hv1.below hbw0) (hv2.below hbw0)
  rw [show (w.alloc (.cells (mc M) 29)).heap.size = w.heap.size + 1 from by simp] at hL1
  have hB0 := hB.alloc (.cells #[v1, v2] 26)
  have hbwL := below_alloc' hbw0 (.cells #[v1, v2] 26)
  have Hv1 := Lib.hid hv1
  have Hv2 := Lib.hid hv2
  obtain ⟨oa1, cap1, hve1, hvc1⟩ := hv1.view
  obtain ⟨oa2, cap2, hve2, hvc2⟩ := hv2.view
  subst hve1 hve2
  clear hv1 hv2 hvc1 hvc2 hzs
  go_enter Try.func18, Try.ntmps18
  go_wp2_with (first | (with_reducible show wpList _ _ _ _ _ _; refine wpList_load_blk rfl 29 (.tmp 3) rfl w.heap.size 0 rfl (mc M) _ (by first | exact hB1 | exact hB) 98 F2.out _ Try.underlying29 rfl size_mach ?_; rw [F1.out]) | (go_at_call 20; refine (l02Code_two M hok _ _ _ z1 z2 _ h2 _ hL1).mono ?_; rintro e w0 ⟨rfl, hb0⟩; simp only [if_true]; have hB1 := hB0.keptAll hb0; have hbw1 := below_step hbwL hb0) | (go_at_call 30; refine (l01Inverse_calls M L S hg _).mono ?_; rintro e w2 ⟨rfl, hb2⟩; have hB2 := hB1.keptAll hb2; have hbw2 := below_step hbw1 hb2; have hlt2 := hB2.lt; have hB3 := hB2.alloc (.cells (mc zeroM) 29); have hZ3 : Blk (w2.alloc (.cells (mc zeroM) 29)) w2.heap.size (mc zeroM) 29 := Blk.new _ _ _; have hbw3 := below_alloc' hbw2 (.cells (mc zeroM) 29)) | (with_reducible show wpList _ _ _ _ _ _; refine wpList_store_blk rfl 29 (.tmp 9) (.tmp 26) rfl w2.heap.size 0 (mc (invM M L S)) rfl rfl (mc zeroM) 29 hZ3 F5.out F6.out F7.out ?_; intro w4 hI4 hkeep hsz hbl; rw [F8.out] at hI4; have hB4 := hkeep _ _ _ (by omega) hB3; have hbw4 := hbl _ _ (by omega) hbw3; have cA := hB4.cell; clear hkeep hbl hsz))
  clear hB hbw0 hB0 hL1 hbwL hB1 hbw1 hb0 hB2 hbw2 hb2 hB3 hZ3 hbw3 F5 F6 F7 F8 hz0 h2
  generalize w2.heap.size = h1 at *
  have H0 := Lib.hid (fdN_first M z1 z2 L)
  go_loopw [10] (fun nv wr => ∃ n : Nat, 1 ≤ n ∧ n ≤ 6 ∧ nv = .int .i64 n ∧ Blk wr w.heap.size (mc M) 29 ∧ Blk wr h1 (mc (invM M L S)) 29 ∧ Below w.heap.size w wr ∧ Hid (fdN M z1 z2 L 0 6 = fdN M z1 z2 L n (6 - n))) (fun nv _ => 6 - (intOf nv).toNat)
  case atStart => exact ⟨1, by omega, by omega, rfl, hB4, hI4, hbw4, H0⟩
  case round =>
    clear hB4 hI4 hbw4 cA
    obtain ⟨n, hn1, hn, rfl, hB, hI, hbw, HF⟩ := hrel
    by_cases hlt : n ≤ 5
    · have hni : (n : Int) ≤ 5 := by omega
      have cA := hB.cell
      have hp := pw_bd L n hL3 hlt
      have hpw : pw L n = ((L ^ n : Nat) : Int) := rfl
      obtain ⟨N, hN⟩ : ∃ N : Nat, L ^ n = N := ⟨_, rfl⟩
      rw [hN] at hpw
      have hN1 : N ≤ 243 := by omega
      have HN := Lib.hid hN
      clear hN
      go_wp2
      go_loopw [11] (fun i wr => ∃ k : Nat, k ≤ N ∧ i = .int .i64 k ∧ Blk wr w.heap.size (mc M) 29 ∧ Blk wr h1 (mc (invM M L S)) 29 ∧ Below w.heap.size w wr ∧ Hid (fdK M z1 z2 L n 0 (L ^ n) = fdK M z1 z2 L n k (N - k))) (fun i _ => N - (intOf i).toNat)
      case atStart => exact ⟨0, by omega, rfl, hB, hI, hbw, Lib.hid (by rw [HN.out]; rfl)⟩
      case round =>
        clear hB hI hbw cA
        obtain ⟨k, hk, rfl, hB, hI, hbw, HK⟩ := hrel
        have cA := hB.cell
        by_cases hlk : k < N
        · have hkp : (k : Int) < pw L n := by rw [hpw]; omega
          have hk2 : k ≤ 242 := by omega
          obtain ⟨hWs, hWl⟩ := wordOf_at L n k hL23 hlt
          have hx1 := Hv1.out.below hbw
          have hx2 := Hv2.out.below hbw
          cases hd : dfB M z1 z2 L n k
          · have Hn := Lib.hid (fdK_no M z1 z2 L n k N hlk hd)
            have hde : ((actG M z1 (wordOf L n k)).1 == (actG M z2 (wordOf L n k)).1) = true := by simpa [dfB] using hd
            go_wp2_with (first | (go_at_call 31; refine (l01Power_calls L n hL3 hlt _).mono ?_; rintro e w' ⟨rfl, rfl⟩) | (go_at_call 32; refine (l01WordOf_calls L hL23 n n k _ hlt (by omega) (by omega) (by omega) (by omega)).mono ?_; rintro e w5 ⟨rfl, hb5⟩; have hB5 := hB.keptAll hb5; have hI5 := hI.keptAll hb5; have hx15 := hx1.below hb5; have hx25 := hx2.below hb5; have hbw5 := below_step hbw hb5; rw [Int.toNat_natCast]) | (with_reducible show wpList _ _ _ _ _ _; refine wpList_load_blk_g rfl 29 _ rfl w.heap.size 0 rfl (mc M) _ (by first | exact hB6 | exact hB5) 98 F2.out _ Try.underlying29 rfl size_mach ?_; rw [F1.out]) | (with_reducible show wpList _ _ _ _ _ _; refine wpList_load_blk_g rfl 29 _ rfl h1 0 rfl (mc (invM M L S)) _ (by first | exact hI6 | exact hI5) 98 F4.out _ Try.underlying29 rfl size_mach ?_; rw [F3.out]) | (go_at_call 33; first | (refine (l02Act_calls M L S hg _ z2 ht.n2 ht.l2 ⟨(wordOf L n k).toArray⟩ hWs hWl _ hx26).mono ?_; rintro e w7 ⟨v7, rfl, hO7, hb7⟩; have hB7 := hB6.keptAll hb7; have hI7 := hI6.keptAll hb7; have hbw7 := below_step hbw6 hb7) | (refine (l02Act_calls M L S hg _ z1 ht.n1 ht.l1 ⟨(wordOf L n k).toArray⟩ hWs hWl _ hx15).mono ?_; rintro e w6 ⟨v6, rfl, hO6, hb6⟩; have hB6 := hB5.keptAll hb6; have hI6 := hI5.keptAll hb6; have hx26 := hx25.below hb6; have hbw6 := below_step hbw5 hb6)))
            go_roundw
            case rel => exact ⟨k + 1, by omega, by go_num, hB7, hI7, hbw7, Lib.hid (by rw [HK.out, Hn.out])⟩
            case measure => simp [intOf] <;> omega
          · have Hn := Lib.hid (fdK_yes M z1 z2 L n k N hlk hd)
            have hde : ((actG M z1 (wordOf L n k)).1 == (actG M z2 (wordOf L n k)).1) = false := by simpa [dfB] using hd
            go_wp2_with (first | (go_at_call 31; refine (l01Power_calls L n hL3 hlt _).mono ?_; rintro e w' ⟨rfl, rfl⟩) | (go_at_call 32; refine (l01WordOf_calls L hL23 n n k _ hlt (by omega) (by omega) (by omega) (by omega)).mono ?_; rintro e w5 ⟨rfl, hb5⟩; have hB5 := hB.keptAll hb5; have hI5 := hI.keptAll hb5; have hx15 := hx1.below hb5; have hx25 := hx2.below hb5; have hbw5 := below_step hbw hb5; rw [Int.toNat_natCast]) | (with_reducible show wpList _ _ _ _ _ _; refine wpList_load_blk_g rfl 29 _ rfl w.heap.size 0 rfl (mc M) _ (by first | exact hB6 | exact hB5) 98 F2.out _ Try.underlying29 rfl size_mach ?_; rw [F1.out]) | (with_reducible show wpList _ _ _ _ _ _; refine wpList_load_blk_g rfl 29 _ rfl h1 0 rfl (mc (invM M L S)) _ (by first | exact hI6 | exact hI5) 98 F4.out _ Try.underlying29 rfl size_mach ?_; rw [F3.out]) | (go_at_call 33; first | (refine (l02Act_calls M L S hg _ z2 ht.n2 ht.l2 ⟨(wordOf L n k).toArray⟩ hWs hWl _ hx26).mono ?_; rintro e w7 ⟨v7, rfl, hO7, hb7⟩; have hB7 := hB6.keptAll hb7; have hI7 := hI6.keptAll hb7; have hbw7 := below_step hbw6 hb7) | (refine (l02Act_calls M L S hg _ z1 ht.n1 ht.l1 ⟨(wordOf L n k).toArray⟩ hWs hWl _ hx15).mono ?_; rintro e w6 ⟨v6, rfl, hO6, hb6⟩; have hB6 := hB5.keptAll hb6; have hI6 := hI5.keptAll hb6; have hx26 := hx25.below hb6; have hbw6 := below_step hbw5 hb6)))
            go_ret2
            have hfd : fdN M z1 z2 L 0 6 = some (wordOf L n k) := by rw [HF.out]; exact fdN_yes M z1 z2 L n 6 (by omega) _ (by rw [HK.out, Hn.out])
            exact ⟨ret_si (by rw [hfd]; rfl) (by rw [hfd]; rfl), hbw7⟩
        · obtain rfl : k = N := by omega
          have hkp : ¬ (k : Int) < pw L n := by rw [hpw]; omega
          have Hend := Lib.hid (HK.out.trans (fdK_end M z1 z2 L n k))
          have Hnx := Lib.hid (fdN_no M z1 z2 L n 6 (by omega) Hend.out)
          go_wp2_with (go_at_call 31; refine (l01Power_calls L n hL3 hlt _).mono ?_; rintro e w' ⟨rfl, rfl⟩)
          go_roundw
          case rel => exact ⟨n + 1, by omega, by omega, by go_num, hB, hI, hbw, Lib.hid (by rw [HF.out, Hnx.out])⟩
          case measure => simp [intOf] <;> omega
    · obtain rfl : n = 6 := by omega
      have hfd := HF.out.trans (fdN_end M z1 z2 L 6)
      have Hr := Lib.hid hfd
      clear hfd
      go_wp2
      go_ret2
      exact ⟨ret_si (by rw [Hr.out]; rfl) (by rw [Hr.out]; rfl), hbw⟩

set_option maxRecDepth 100000 in
set_option maxHeartbeats 1000000 in
theorem sFirstDifference_calls (M : Mach) (hok : M.Ok) (v1 : Value) (z1 : List Int) (v2 : Value) (z2 : List Int) (w : World) (hv1 : SeesI w v1 z1) (hv2 : SeesI w v2 z2) :
    Calls Try.prog 18 #[.agg (mc M), v1, v2] w fun e w' => e = .returned (.tuple #[.string (fdR M z1 z2), .int .i64 (fdC M z1 z2)]) ∧ Below w.heap.size w w' := by
  cases hm : two M z1 z2
  · have F1 : Hid (cut (mc M) 0 98 = mc M) := Lib.hid (cut_all _ _ (mc_size hok)); have F2 : Hid (0 + 98 ≤ (mc M).size) := Lib.hid (by rw [mc_size hok]; omega)
    have hB : Blk (w.alloc (.cells (mc M) 29)) w.heap.size (mc M) 29 := Blk.new w _ _
    have hbw0 : Below w.heap.size w (w.alloc (.cells (mc M) 29)) := by (repeat (first | exact Below.refl _ _ | refine below_drew' ?_ | refine below_drewN' ?_ _ | refine below_alloc' ?_ _ | refine below_set' ?_ (by (try simp); (try omega)) _ | refine below_step ?_ (by assumption)))
    have hL1 := seesL2 (hv1.below hbw0) (hv2.below hbw0)
    rw [show (w.alloc (.cells (mc M) 29)).heap.size = w.heap.size + 1 from by simp] at hL1
    have hbwL := below_alloc' hbw0 (.cells #[v1, v2] 26)
    obtain ⟨oa1, cap1, hve1, hvc1⟩ := hv1.view
    obtain ⟨oa2, cap2, hve2, hvc2⟩ := hv2.view
    subst hve1 hve2
    clear hv1 hv2 hvc1 hvc2
    have Hc : Hid (fdC M z1 z2 = 1) := Lib.hid (by simp [fdC, hm])
    have Hr : Hid (fdR M z1 z2 = ⟨#[]⟩) := Lib.hid (by simp [fdR, hm])
    go_enter Try.func18, Try.ntmps18
    go_wp2_with (first | (with_reducible show wpList _ _ _ _ _ _; refine wpList_load_blk rfl 29 (.tmp 3) rfl w.heap.size 0 rfl (mc M) _ (hB) 98 F2.out _ Try.underlying29 rfl size_mach ?_; rw [F1.out]) | (go_at_call 20; refine (l02Code_two M hok _ _ _ z1 z2 _ hm _ hL1).mono ?_; rintro e w0 ⟨rfl, hb0⟩; simp only [Bool.false_eq_true, if_false]))
    go_ret2
    exact ⟨ret_si Hr.out.symm Hc.out.symm, below_step hbwL hb0⟩
  · obtain ⟨L, S, ht⟩ := twos_of hok hm
    have hr : fdR M z1 z2 = wordR (fdN M z1 z2 L 0 6) := by unfold fdR; rw [if_pos hm, ht.g.hL, Int.toNat_natCast]
    have hc : fdC M z1 z2 = wordC (fdN M z1 z2 L 0 6) := by unfold fdC; rw [if_pos hm, ht.g.hL, Int.toNat_natCast]
    rw [hr, hc]
    exact sFirst_good M L S z1 z2 ht hm v1 v2 w hv1 hv2
end Go.Proofs.Ytlclhjpnnlgjfaa
