/- 'l05Code', 'FixedWords': the model. -/
import Derived.Test.YtppmfpgpbdjkdabFxD
namespace Go.Proofs.Ytppmfpgpbdjkdab
open Go.RowKit

set_option maxRecDepth 100000 in
set_option maxHeartbeats 1000000 in
theorem l05Code_calls (M : Mach) (hok : M.Ok) (n : Int) (w : World) :
    Calls Try.prog 31 #[.agg (mc M), .int .i64 n] w fun e w' => e = .returned (.int .i64 (gC M n [])) ∧ Below w.heap.size w w' := by
  have F1 : Hid (cut (mc M) 0 98 = mc M) := Lib.hid (cut_all _ _ (mc_size hok)); have F2 : Hid (0 + 98 ≤ (mc M).size) := Lib.hid (by rw [mc_size hok]; omega)
  have hB : Blk (w.alloc (.cells (mc M) 29)) w.heap.size (mc M) 29 := Blk.new w _ _
  have hbw0 : Below w.heap.size w (w.alloc (.cells (mc M) 29)) := by (repeat (first | exact Below.refl _ _ | refine below_drew' ?_ | refine below_drewN' ?_ _ | refine below_alloc' ?_ _ | refine below_set' ?_ (by (try simp); (try omega)) _ | refine below_step ?_ (by assumption)))
  have HI := Lib.hid (fun W => l01Is_calls M hok W)
  cases hm : isMach M
  · have Hr : Hid (gC M n [] = 1) := Lib.hid (by simp [gC, hm])
    rw [hm] at HI
    go_enter Try.func31, Try.ntmps31
    go_wp2_with (first | (with_reducible show wpList _ _ _ _ _ _; refine wpList_load_blk rfl 29 (.tmp 2) rfl w.heap.size 0 rfl (mc M) _ (hB) 98 F2.out _ Try.underlying29 rfl size_mach ?_; rw [F1.out]) | (go_at_call 45; refine (HI.out _).mono ?_; rintro e w1 ⟨rfl, hb1⟩))
    go_ret
    exact ⟨ret_int Hr.out.symm, below_step hbw0 hb1⟩
  · obtain ⟨L, S, hg⟩ := Good.of hok hm
    rw [hm] at HI
    have hcL := mc_L M
    rw [hg.hL] at hcL
    have hL2 := hg.L2
    have hL3 := hg.L3
    have HN := Lib.hid (fun W => l01In_calls n 0 (7 - (L : Int)) W)
    have hgl : gLev M n = decide (0 ≤ n ∧ n ≤ 7 - (L : Int)) := by unfold gLev; rw [hg.hL, Bool.decide_and]
    have hgc : gC M n [] = if gLev M n then 0 else 2 := by
      unfold gC
      rw [if_pos hm]
      cases gLev M n <;> simp [inK]
    rw [← hgl] at HN
    cases hl : gLev M n
    · rw [hl] at HN hgc
      have Hr : Hid (gC M n [] = 2) := Lib.hid (by rw [hgc]; rfl)
      clear hgc hgl hl
      go_enter Try.func31, Try.ntmps31
      go_wp2_with (first | (with_reducible show wpList _ _ _ _ _ _; refine wpList_load_blk rfl 29 (.tmp 2) rfl w.heap.size 0 rfl (mc M) _ (hB) 98 F2.out _ Try.underlying29 rfl size_mach ?_; rw [F1.out]) | (go_at_call 45; refine (HI.out _).mono ?_; rintro e w1 ⟨rfl, hb1⟩; have cA := (hB.keptAll hb1).cell 0; rw [hcL] at cA) | (go_at_call 32; refine (HN.out _).mono ?_; rintro e w' ⟨rfl, rfl⟩))
      go_ret
      exact ⟨ret_int Hr.out.symm, below_step hbw0 hb1⟩
    · rw [hl] at HN hgc
      have Hr : Hid (gC M n [] = 0) := Lib.hid (by rw [hgc]; rfl)
      clear hgc hgl hl
      go_enter Try.func31, Try.ntmps31
      go_wp2_with (first | (with_reducible show wpList _ _ _ _ _ _; refine wpList_load_blk rfl 29 (.tmp 2) rfl w.heap.size 0 rfl (mc M) _ (hB) 98 F2.out _ Try.underlying29 rfl size_mach ?_; rw [F1.out]) | (go_at_call 45; refine (HI.out _).mono ?_; rintro e w1 ⟨rfl, hb1⟩; have cA := (hB.keptAll hb1).cell 0; rw [hcL] at cA) | (go_at_call 32; refine (HN.out _).mono ?_; rintro e w' ⟨rfl, rfl⟩))
      go_ret
      exact ⟨ret_int Hr.out.symm, below_step hbw0 hb1⟩

set_option maxRecDepth 100000 in
set_option maxHeartbeats 4000000 in
theorem sFixedWords_calls (M : Mach) (hok : M.Ok) (n : Int) (w : World) :
    Calls Try.prog 17 #[.agg (mc M), .int .i64 n] w fun e w' => ∃ v, e = .returned (.tuple #[v, .int .i64 (gC M n [])]) ∧ OwnI w' w.heap.size v (fxR M n) ∧ Below w.heap.size w w' := by
  have F1 : Hid (cut (mc M) 0 98 = mc M) := Lib.hid (cut_all _ _ (mc_size hok)); have F2 : Hid (0 + 98 ≤ (mc M).size) := Lib.hid (by rw [mc_size hok]; omega)
  have hB : Blk (w.alloc (.cells (mc M) 29)) w.heap.size (mc M) 29 := Blk.new w _ _
  have hbw0 : Below w.heap.size w (w.alloc (.cells (mc M) 29)) := by (repeat (first | exact Below.refl _ _ | refine below_drew' ?_ | refine below_drewN' ?_ _ | refine below_alloc' ?_ _ | refine below_set' ?_ (by (try simp); (try omega)) _ | refine below_step ?_ (by assumption)))
  have HC := Lib.hid (l05Code_calls M hok n (w.alloc (.cells (mc M) 29)))
  by_cases hc : gC M n [] = 0
  · obtain ⟨L, S, nn, hg, rfl, hnL⟩ := gC_good hok hc
    have Hr := Lib.hid (fxR_good hg hc)
    rw [hc, Hr.out]
    rw [hc] at HC
    have hcS := mc_S M
    rw [hg.hS] at hcS
    have HcS := Lib.hid hcS
    have hS16 := hg.S16
    have HLV := Lib.hid (fun q hq W => l01Level_calls M L S hg q nn hq (by have := hg.L2; omega) W)
    have HPl : Hid (∀ q, (permL M L q nn).length ≤ 243) := Lib.hid (fun q => by rw [permL_len]; have := hg.L2; exact pow_le L nn hg.L3 (by omega))
    clear hc hcS
    go_enter Try.func17, Try.ntmps17
    go_wp2_with (first | (with_reducible show wpList _ _ _ _ _ _; refine wpList_load_blk rfl 29 (.tmp 2) rfl w.heap.size 0 rfl (mc M) _ (hB) 98 F2.out _ Try.underlying29 rfl size_mach ?_; rw [F1.out]) | (go_at_call 31; refine HC.out.mono ?_; rintro e w1 ⟨rfl, hb1⟩))
    have hs1 := hb1.size
    simp at hs1
    have hM1 := (hB.keptAll hb1).alloc (.cells #[] 2)
    have hO1 : OwnI (w1.alloc (.cells #[] 2)) w1.heap.size (.slice (some ⟨w1.heap.size, 0, none⟩) 0 0) (fxL M L nn 0) := OwnI.empty w1 w1.heap.size 0 #[] (Nat.le_refl _) (by unfold maxLen; omega) rfl
    have hbw1 := below_alloc' (below_step hbw0 hb1) (.cells #[] 2)
    have hltM := (hB.keptAll hb1).lt
    clear hB
    go_loopw [7, 8] (fun ov i wr => ∃ (k : Nat) (v0 : Value), k ≤ S ∧ i = .int .i64 k ∧ v0 = ov ∧ OwnI wr w1.heap.size v0 (fxL M L nn k) ∧ Blk wr w.heap.size (mc M) 29 ∧ w1.heap.size ≤ wr.heap.size ∧ Below w.heap.size w wr) (fun _ i _ => S - (intOf i).toNat)
    case atStart => exact ⟨0, _, by omega, rfl, rfl, hO1, hM1, by simp, hbw1⟩
    case round =>
      clear hO1 hM1 hbw1
      obtain ⟨k, v0, hk, rfl, rfl, hO, hM, hge, hbw⟩ := hrel
      obtain ⟨w3, rfl⟩ : ∃ x, x = wr := ⟨_, rfl⟩
      have cA := hM.cell 1
      rw [HcS.out] at cA
      by_cases hlt : k < S
      · have hki : (k : Int) < (S : Int) := by omega
        have HL1 := Lib.hid (HLV.out k hlt)
        have hP := HPl.out k
        have Hs := Lib.hid (fxL_succ M L nn k)
        have Hln := Lib.hid (fxL_len M L nn k)
        have HQ : Hid (fixQ M L nn k = ((fixUp (permL M L k nn) (permL M L k nn).length : Nat) : Int)) := Lib.hid rfl
        generalize fixQ M L nn k = fq at *
        generalize fxL M L nn k = fl at *
        generalize permL M L k nn = P at *
        go_wp2_with (first | (with_reducible show wpList _ _ _ _ _ _; refine wpList_load_blk rfl 29 (.tmp 2) rfl w.heap.size 0 rfl (mc M) _ (hM) 98 F2.out _ Try.underlying29 rfl size_mach ?_; rw [F1.out]) | (go_at_call 34; refine (HL1.out _).mono ?_; rintro e w4 ⟨u, rfl, hU, hb4⟩; obtain ⟨o, c, rfl, hq⟩ := hU.view; clear hq))
        have hM4 := hM.keptAll hb4
        have hO4 := hO.below hb4
        have hbw4 := below_step hbw hb4
        have hs4 := hb4.size
        have HU := Lib.hid hU.sees
        clear hM hO hbw hU cA
        go_loopw [10, 11] (fun cv iv wr => ∃ i : Nat, i ≤ P.length ∧ iv = .int .i64 i ∧ cv = .int .i64 ((fixUp P i : Nat) : Int) ∧ wr = w4) (fun _ iv _ => P.length - (intOf iv).toNat)
        case atStart => exact ⟨0, by omega, rfl, rfl, rfl⟩
        case round =>
          obtain ⟨i, hi, rfl, rfl, rfl⟩ := hrel
          by_cases hlti : i < P.length
          · have hii : (i : Int) < (P.length : Int) := by omega
            obtain ⟨g, h1, hg1, c1⟩ := HU.out.at i hlti
            subst h1
            have Hfs := Lib.hid (fixUp_succ P i)
            rw [show P.getD i 0 = P[i] by simp [List.getD, List.getElem?_eq_getElem hlti]] at Hfs
            have hfl := fixUp_le P i
            generalize P[i] = z at *
            by_cases hz : z = (i : Int)
            · have hzb : (z == (i : Int)) = true := by simpa using hz
              have Hf1 : Hid (((fixUp P (i + 1) : Nat) : Int) = ((fixUp P i : Nat) : Int) + 1) := Lib.hid (by rw [Hfs.out, if_pos hz]; omega)
              clear hz
              generalize fixUp P i = fu at *
              go_wp2
              go_roundw
              case rel => exact ⟨i + 1, by omega, by go_num, by rw [Hf1.out], trivial⟩
              case measure => simp [intOf] <;> omega
            · have hzb : (z == (i : Int)) = false := by simpa using hz
              have Hf1 : Hid (fixUp P (i + 1) = fixUp P i) := Lib.hid (by rw [Hfs.out, if_neg hz]; omega)
              clear hz
              go_wp2
              go_roundw
              case rel => exact ⟨i + 1, by omega, by go_num, by rw [Hf1.out], trivial⟩
              case measure => simp [intOf] <;> omega
          · obtain rfl : i = P.length := by omega
            obtain ⟨ov, cv, rfl, hvq⟩ := hO4.view
            clear hvq
            have hfl := fixUp_le P P.length
            rw [← HQ.out]
            have hfq : 0 ≤ fq ∧ fq ≤ 243 := by rw [HQ.out]; omega
            have hOa := hO4.below (w1 := wr.alloc (.cells #[.int .i64 fq] 2)) (by (repeat (first | exact Below.refl _ _ | refine below_drew' ?_ | refine below_drewN' ?_ _ | refine below_alloc' ?_ _ | refine below_set' ?_ (by (try simp); (try omega)) _ | refine below_step ?_ (by assumption))))
            have hMa := hM4.alloc (.cells #[.int .i64 fq] 2)
            have hba := below_alloc' hbw4 (.cells #[.int .i64 fq] 2)
            go_wp2_with (at_builtin; refine wpList_push_int rfl (.tmp 43) (.tmp 45) rfl w1.heap.size _ fl rfl hOa wr.heap.size 1 fq rfl (Blk.new wr _ _) (by have := Hln.out; omega) (by simp; omega) ?_; intro v7 w7 hO7 hb7)
            have hs7 := hb7.size
            simp at hs7
            go_roundw
            case rel => exact ⟨k + 1, _, by omega, by go_num, rfl, by rw [Hs.out]; exact hO7, hMa.kept hb7 (by omega), by omega, hba.trans (below_le hb7 (by omega))⟩
            case measure => simp [intOf] <;> omega
      · obtain rfl : k = S := by omega
        go_wp2
        go_ret2
        exact ⟨_, rfl, hO.base_le' (by omega), hbw⟩
  · obtain ⟨c, hcc⟩ : ∃ c, gC M n [] = c := ⟨_, rfl⟩
    have Hr : Hid (fxR M n = []) := Lib.hid (by unfold fxR; rw [if_neg hc])
    rw [hcc] at hc HC ⊢
    have hcb : (c != 0) = true := by simpa using hc
    rw [Hr.out]
    clear hcc hc
    go_enter Try.func17, Try.ntmps17
    go_wp2_with (first | (with_reducible show wpList _ _ _ _ _ _; refine wpList_load_blk rfl 29 (.tmp 2) rfl w.heap.size 0 rfl (mc M) _ (hB) 98 F2.out _ Try.underlying29 rfl size_mach ?_; rw [F1.out]) | (go_at_call 31; refine HC.out.mono ?_; rintro e w1 ⟨rfl, hb1⟩))
    go_ret2
    exact ⟨_, rfl, OwnI.nil _ _, below_step hbw0 hb1⟩
end Go.Proofs.Ytppmfpgpbdjkdab
namespace Go.Proofs.Ytppmfpgpbdjkdab
theorem fxR_len (M : Mach) (hok : M.Ok) (n : Int) : (fxR M n).length ≤ 1048576 := by
  unfold fxR
  split
  · rename_i h
    obtain ⟨L, S, nn, hg, _, _⟩ := gC_good hok h
    rw [fxL_len, hg.hS, Int.toNat_natCast]
    have := hg.S16
    omega
  · simp
end Go.Proofs.Ytppmfpgpbdjkdab
