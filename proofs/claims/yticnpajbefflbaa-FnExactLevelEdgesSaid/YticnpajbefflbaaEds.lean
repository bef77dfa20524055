/- 'LevelEdges': the model. -/
import Derived.Test.YticnpajbefflbaaEdi
import Derived.Test.YticnpajbefflbaaTrL
namespace Go.Proofs.Yticnpajbefflbaa
open Go.RowKit

theorem OwnE.empty {w : World} {base g : Nat} (hb : base ≤ g) (hB : Blk w g #[] 79) : OwnE w base (.slice (some ⟨g, 0, none⟩) 0 0) [] :=
  ⟨0, rfl, ⟨by simp, .inr ⟨g, 0, #[], rfl, hb, hB, by simp, by unfold maxLen; omega, by simp, by simp⟩⟩⟩

set_option maxRecDepth 100000 in
set_option maxHeartbeats 4000000 in
theorem sLevelEdges_calls (M : Mach) (hok : M.Ok) (n : Int) (w : World) :
    Calls Try.prog 27 #[.agg (mc M), .int .i64 n] w fun e w' => ∃ v, e = .returned (.tuple #[v, .int .i64 (gC M n [])]) ∧ OwnE w' w.heap.size v (leR M n) ∧ Below w.heap.size w w' := by
  have F1 : Hid (cut (mc M) 0 98 = mc M) := Lib.hid (cut_all _ _ (mc_size hok)); have F2 : Hid (0 + 98 ≤ (mc M).size) := Lib.hid (by rw [mc_size hok]; omega)
  have hB : Blk (w.alloc (.cells (mc M) 29)) w.heap.size (mc M) 29 := Blk.new w _ _
  have hbw0 : Below w.heap.size w (w.alloc (.cells (mc M) 29)) := by (repeat (first | exact Below.refl _ _ | refine below_drew' ?_ | refine below_drewN' ?_ _ | refine below_alloc' ?_ _ | refine below_set' ?_ (by (try simp); (try omega)) _ | refine below_step ?_ (by assumption)))
  have HC := Lib.hid (l05Code_calls M hok n (w.alloc (.cells (mc M) 29)))
  by_cases hc : gC M n [] = 0
  · obtain ⟨L, S, nn, hg, rfl, hnL⟩ := gC_good hok hc
    have Hr := Lib.hid (leR_good hg hc)
    rw [hc, Hr.out]
    rw [hc] at HC
    have hcL := mc_L M
    rw [hg.hL] at hcL
    have HcL := Lib.hid hcL
    have hcS := mc_S M
    rw [hg.hS] at hcS
    have HcS := Lib.hid hcS
    have hS16 := hg.S16
    have hS1 := hg.S1
    have hN : L ^ nn ≤ 243 := by have := hg.L2; exact pow_le L nn hg.L3 (by omega)
    have HT := Lib.hid (fun W => l05Tables_calls M L S hg nn (by have := hg.L2; omega) W)
    have HP := Lib.hid (fun W => l01Power_calls L nn hg.L3 (by have := hg.L2; omega) W)
    have hpw : pw L nn = ((L ^ nn : Nat) : Int) := rfl
    rw [hpw] at HP
    have hlen0 : (tbB M L S nn S).length = S + S := tbB_len _ _ _ _ _
    have Htb : Hid (∀ q (hq : q < S) (h : q < (tbB M L S nn S).length), (tbB M L S nn S)[q] = permL M L q nn) := Lib.hid (fun q hq h => by
      rw [tab_at M L S nn q (by rw [List.length_append, fwd_len]; omega) h, List.getElem_append_left (by rw [fwd_len]; omega)]
      simp [fwd])
    have HPl : Hid (∀ q, (permL M L q nn).length = L ^ nn) := Lib.hid (fun q => by rw [permL_len])
    have Htl := Lib.hid hlen0
    have h0 : 0 < (tbB M L S nn S).length := by omega
    clear hc hcL hcS hpw hlen0
    generalize L ^ nn = N at *
    generalize tbB M L S nn S = tb at *
    go_enter Try.func27, Try.ntmps27
    go_wp2_with (first | (with_reducible show wpList _ _ _ _ _ _; refine wpList_load_blk rfl 29 (.tmp 2) rfl w.heap.size 0 rfl (mc M) _ (by first | exact hB1 | exact hB) 98 F2.out _ Try.underlying29 rfl size_mach ?_; rw [F1.out]) | (go_at_call 47; refine HC.out.mono ?_; rintro e w1 ⟨rfl, hb1⟩; have hB1 := hB.keptAll hb1; have hbw1 := below_step hbw0 hb1) | (go_at_call 54; refine (HT.out _).mono ?_; rintro e w2 ⟨v2, vs2, rfl, hO2, hb2⟩; have hM2 := hB1.keptAll hb2; have hbw2 := below_step hbw1 hb2; obtain ⟨oa, ca, rfl, hvq⟩ := hO2.view; obtain ⟨gv, rfl, hgv, hcv⟩ := hvq h0; clear hvq; have hgl : gv < w2.heap.size := (hO2.lt gv (.inl rfl)).2))
    have hE3 : OwnE (w2.alloc (.cells #[] 79)) w2.heap.size (.slice (some ⟨w2.heap.size, 0, none⟩) 0 0) (edF M L nn S 0) := OwnE.empty (Nat.le_refl _) (Blk.new _ _ _)
    have hl3 : Below w2.heap.size w2 (w2.alloc (.cells #[] 79)) := by (repeat (first | exact Below.refl _ _ | refine below_drew' ?_ | refine below_drewN' ?_ _ | refine below_alloc' ?_ _ | refine below_set' ?_ (by (try simp); (try omega)) _ | refine below_step ?_ (by assumption)))
    have HO2 := Lib.hid hO2
    have HM2 := Lib.hid hM2
    have Hcv := Lib.hid hcv
    have hz2 := hbw2.size
    clear hB hB1 hbw0 hbw1 hb1 hb2 hO2 hM2 hcv
    go_loopw [8, 9] (fun ov i wr => ∃ (k : Nat) (v0 : Value), k ≤ N ∧ i = .int .i64 k ∧ v0 = ov ∧ OwnE wr w2.heap.size v0 (edF M L nn S k) ∧ Below w2.heap.size w2 wr) (fun _ i _ => N - (intOf i).toNat)
    case atStart => exact ⟨0, _, by omega, rfl, rfl, hE3, hl3⟩
    case round =>
      clear hE3 hl3
      obtain ⟨k, v0, hk, rfl, rfl, hO, hbw⟩ := hrel
      obtain ⟨w3, rfl⟩ : ∃ x, x = wr := ⟨_, rfl⟩
      have cL := (HM2.out.keptAll hbw).cell 0
      rw [HcL.out] at cL
      by_cases hlt : k < N
      · have hki : (k : Int) < (N : Int) := by omega
        have hfl := edF_len M L nn S k
        have hks : k * S ≤ 243 * 16 := Nat.mul_le_mul (by omega) hS16
        have Hfs := Lib.hid (edF_succ M L nn S k)
        have hO0 : OwnE w3 w2.heap.size v0 (edF M L nn S k ++ edI M L nn k 0) := by simpa [edI] using hO
        clear hO
        generalize edF M L nn S k = ef at *
        go_wp2_with (go_at_call 55; refine (HP.out _).mono ?_; rintro e w' ⟨rfl, rfl⟩)
        go_loopw [8, 10] (fun ov i wr => ∃ (q : Nat) (v0 : Value), q ≤ S ∧ i = .int .i64 q ∧ v0 = ov ∧ OwnE wr w2.heap.size v0 (ef ++ edI M L nn k q) ∧ Below w2.heap.size w2 wr) (fun _ i _ => S - (intOf i).toNat)
        case atStart => exact ⟨0, _, by omega, rfl, rfl, hO0, hbw⟩
        case round =>
          clear hO0 hbw cL
          obtain ⟨q, v0, hq, rfl, rfl, hO, hbw⟩ := hrel
          obtain ⟨w4, rfl⟩ : ∃ x, x = wr := ⟨_, rfl⟩
          have cS := (HM2.out.keptAll hbw).cell 1
          rw [HcS.out] at cS
          by_cases hlq : q < S
          · have hqi : (q : Int) < (S : Int) := by omega
            have hqt : q < tb.length := by rw [Htl.out]; omega
            have hqti : (q : Int) < (tb.length : Int) := by omega
            have hqv : q < vs2.length := by have := HO2.out.len; omega
            have cv := (hbw.cell (p := ⟨gv, q, none⟩) hgl).trans (Hcv.out q hqv)
            have hu := ((HO2.out.below hbw).own q hqv hqt).sees
            rw [Htb.out q hlq hqt] at hu
            have hkl : k < (permL M L q nn).length := by rw [HPl.out]; exact hlt
            have hkli : (k : Int) < ((permL M L q nn).length : Int) := by omega
            obtain ⟨ot, cap, hue, hqq⟩ := hu.view
            clear hqq
            rw [hue] at hu cv
            obtain ⟨gt, h1, hgt, ct⟩ := hu.at k hkl
            subst h1
            have Hs := Lib.hid (edI_succ M L nn k q)
            have hgd : (permL M L q nn).getD k 0 = (permL M L q nn)[k] := by simp [List.getD, List.getElem?_eq_getElem hkl]
            rw [hgd] at Hs
            have hel := edI_len M L nn k q
            clear hgd hu hue
            generalize (permL M L q nn)[k] = z at *
            generalize (permL M L q nn).length = pl at *
            have hle : (ef ++ edI M L nn k q).length ≤ 1048576 := by rw [List.length_append, hel, hfl]; omega
            generalize edI M L nn k q = ei at *
            have hwz := hbw.size
            have hbB : Below w4.heap.size w4 (w4.alloc (.cells #[.int .i64 (k : Int), .int .i64 (q : Int), .int .i64 z] 79)) := by (repeat (first | exact Below.refl _ _ | refine below_drew' ?_ | refine below_drewN' ?_ _ | refine below_alloc' ?_ _ | refine below_set' ?_ (by (try simp); (try omega)) _ | refine below_step ?_ (by assumption)))
            have hOB := hO.below hbB
            have hbwB := hbw.trans (below_le hbB hwz)
            obtain ⟨_, o0, c0, _, hve, _⟩ := hO.view
            clear hO hbB
            subst hve
            go_wp2_with (at_builtin; refine wpList_push_edge rfl (.tmp 35) (.tmp 46) rfl w2.heap.size _ (ef ++ ei) rfl hOB w4.heap.size 1 (k : Int) (q : Int) z rfl (Blk.new _ _ _) hle (by simp; omega) ?_; intro v7 w7 hO7 hb7)
            have hs7 := hb7.size
            go_roundw
            case rel => exact ⟨q + 1, v7, by omega, by go_num, rfl, by rw [Hs.out, ← List.append_assoc]; exact hO7, hbwB.trans hb7⟩
            case measure => simp [intOf] <;> omega
          · obtain rfl : q = S := by omega
            rw [← Hfs.out] at hO
            go_wp2
            go_roundw
            case rel => exact ⟨k + 1, _, by omega, by go_num, rfl, hO, hbw⟩
            case measure => simp [intOf] <;> omega
      · obtain rfl : k = N := by omega
        go_wp2_with (go_at_call 55; refine (HP.out _).mono ?_; rintro e w' ⟨rfl, rfl⟩)
        go_ret2
        exact ⟨_, rfl, hO.base_le hz2, hbw2.trans (below_le hbw hz2)⟩
  · obtain ⟨c, hcc⟩ : ∃ c, gC M n [] = c := ⟨_, rfl⟩
    have Hr : Hid (leR M n = []) := Lib.hid (by unfold leR; rw [if_neg hc])
    rw [hcc] at hc HC ⊢
    have hcb : (c != 0) = true := by simpa using hc
    rw [Hr.out]
    clear hcc hc
    go_enter Try.func27, Try.ntmps27
    go_wp2_with (first | (with_reducible show wpList _ _ _ _ _ _; refine wpList_load_blk rfl 29 (.tmp 2) rfl w.heap.size 0 rfl (mc M) _ (hB) 98 F2.out _ Try.underlying29 rfl size_mach ?_; rw [F1.out]) | (go_at_call 47; refine HC.out.mono ?_; rintro e w1 ⟨rfl, hb1⟩))
    go_ret2
    exact ⟨_, rfl, OwnE.nil _ _, below_step hbw0 hb1⟩
end Go.Proofs.Yticnpajbefflbaa
