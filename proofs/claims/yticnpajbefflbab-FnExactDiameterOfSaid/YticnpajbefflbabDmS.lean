/- 'DiameterOf': the model. -/
import Derived.Test.YticnpajbefflbabDmI
import Derived.Test.YticnpajbefflbabDsS
namespace Go.Proofs.Yticnpajbefflbab
open Go.RowKit

set_option maxRecDepth 100000 in
set_option maxHeartbeats 4000000 in
theorem sDiameterOf_calls (M : Mach) (hok : M.Ok) (n : Int) (w : World) :
    Calls Try.prog 22 #[.agg (mc M), .int .i64 n] w fun e w' => e = .returned (.tuple #[.int .i64 (diR M n), .int .i64 (diC M n)]) ∧ Below w.heap.size w w' := by
  have F1 : Hid (cut (mc M) 0 98 = mc M) := Lib.hid (cut_all _ _ (mc_size hok)); have F2 : Hid (0 + 98 ≤ (mc M).size) := Lib.hid (by rw [mc_size hok]; omega)
  have hB : Blk (w.alloc (.cells (mc M) 29)) w.heap.size (mc M) 29 := Blk.new w _ _
  have hbw0 : Below w.heap.size w (w.alloc (.cells (mc M) 29)) := by (repeat (first | exact Below.refl _ _ | refine below_drew' ?_ | refine below_drewN' ?_ _ | refine below_alloc' ?_ _ | refine below_set' ?_ (by (try simp); (try omega)) _ | refine below_step ?_ (by assumption)))
  have HC := Lib.hid (l05Code_calls M hok n (w.alloc (.cells (mc M) 29)))
  by_cases hc : gC M n [] = 0
  · obtain ⟨L, S, nn, hg, rfl, hnL⟩ := gC_good hok hc
    obtain ⟨e1, e2⟩ := diR_good hg hc
    rw [hc] at HC
    rw [e1, e2]
    have hN : L ^ nn ≤ 243 := by have := hg.L2; exact pow_le L nn hg.L3 (by omega)
    have hS1 := hg.S1
    have HT := Lib.hid (fun W => l05Tables_calls M L S hg nn (by have := hg.L2; omega) W)
    have HGr := Lib.hid (fun k hk b v vs W h => l05Grow_calls M L S hg nn (L ^ nn) rfl (by omega) k hk b v vs W h)
    have hlen0 : (tbB M L S nn S).length = S + S := tbB_len _ _ _ _ _
    have h0 : 0 < (tbB M L S nn S).length := by omega
    have hN0 : (tbB M L S nn S)[0].length = L ^ nn := by
      rw [tab_at M L S nn 0 (by rw [List.length_append, fwd_len]; omega) h0, List.getElem_append_left (by rw [fwd_len]; omega)]
      simp [fwd, permL_len]
    have hlp : (0 : Int) < ((tbB M L S nn S).length : Int) := by omega
    have HTS := Lib.hid (fun k => treeT_srt (fwd M L nn S ++ bwd M L S nn S) (L ^ nn) k)
    have HTP := Lib.hid (fun k => treeT_pos (fwd M L nn S ++ bwd M L S nn S) (L ^ nn) k)
    clear hc e1 e2 hlen0
    generalize tbB M L S nn S = tb at *
    generalize hPs : fwd M L nn S ++ bwd M L S nn S = Ps at *
    clear hPs
    generalize L ^ nn = N at *
    go_enter Try.func22, Try.ntmps22
    go_wp2_with (first | (with_reducible show wpList _ _ _ _ _ _; refine wpList_load_blk rfl 29 (.tmp 2) rfl w.heap.size 0 rfl (mc M) _ (by first | exact hB1 | exact hB) 98 F2.out _ Try.underlying29 rfl size_mach ?_; rw [F1.out]) | (go_at_call 28; refine HC.out.mono ?_; rintro e w1 ⟨rfl, hb1⟩; have hB1 := hB.keptAll hb1; have hbw1 := below_step hbw0 hb1) | (go_at_call 30; refine (HT.out _).mono ?_; rintro e w2 ⟨v2, vs2, rfl, hO2, hb2⟩; have hM2 := hB1.keptAll hb2; have hbw2 := below_step hbw1 hb2; have hv0 : 0 < vs2.length := (by have := hO2.len; omega); obtain ⟨ou0, cu0, hue, hqq⟩ := (hO2.own 0 hv0 h0).view; clear hqq; rw [hN0] at hue; obtain ⟨oa, ca, rfl, hvq⟩ := hO2.view; obtain ⟨gv, rfl, hgv, hcv⟩ := hvq h0; have cv := hcv 0 hv0; rw [hue] at cv; clear hcv hvq; have hgl : gv < w2.heap.size := (hO2.lt gv (.inl rfl)).2))
    have HO2 := Lib.hid hO2
    have HM2 := Lib.hid hM2
    clear hB hB1 hbw0 hbw1 hb1 hb2 hM2 hO2
    go_loopw [8, 9] (fun ov i wr => ∃ (k d : Nat), k ≤ N ∧ i = .int .i64 k ∧ ov = .int .i64 d ∧ Hid (diaK Ps N k = some d) ∧ Below w2.heap.size w2 wr) (fun _ i _ => N - (intOf i).toNat)
    case atStart => exact ⟨0, 0, by omega, rfl, rfl, Lib.hid rfl, Below.refl _ _⟩
    case round =>
      obtain ⟨k, d, hk, rfl, rfl, HD, hbw⟩ := hrel
      obtain ⟨w3, rfl⟩ : ∃ x, x = wr := ⟨_, rfl⟩
      have cv3 := (hbw.cell (p := ⟨gv, 0, none⟩) hgl).trans cv
      have hM3 := HM2.out.keptAll hbw
      by_cases hlt : k < N
      · have hki : (k : Int) < (N : Int) := by omega
        have HGk := Lib.hid (HGr.out k hlt _ _ vs2 w3 (HO2.out.below hbw))
        have Hstop := Lib.hid (diaK_stop Ps N k hlt)
        have Hnext := Lib.hid (diaK_next Ps N k d HD.out)
        have Hsr := Lib.hid (HTS.out k)
        have Hpo := Lib.hid (HTP.out k)
        generalize treeT Ps N k = T0 at *
        have hfd := fun q f s dv W => run_tre3 q f s dv W
        go_wp2_with (first | (with_reducible show wpList _ _ _ _ _ _; refine wpList_load_blk rfl 29 (.tmp 2) rfl w.heap.size 0 rfl (mc M) _ (hM3) 98 F2.out _ Try.underlying29 rfl size_mach ?_; rw [F1.out]) | (go_at_call 35; refine HGk.out.mono ?_; rintro e w4 ⟨qv, fv, sv, dv, T, rfl, hTe, hTok, hq4, hf4, hs4, hd4, hb4⟩; have HTe := Lib.hid hTe; have HTok := Lib.hid hTok; clear hTe hTok; obtain ⟨o4, c4, rfl, hqq⟩ := hd4.view; clear hqq hq4 hf4 hs4; have HD4 := Lib.hid hd4.sees; have hbw4 := below_step hbw hb4; clear hd4))
        rw [← HTe.out] at Hstop Hnext Hsr Hpo
        clear hbw cv3 hM3 hb4 HGk HTe
        have hdlen := distL_len N T
        have HDM := Lib.hid (fun x hx => dist_met (N := N) (T := T) x hx)
        have HGD := Lib.hid (fun x hx => distL_get (N := N) (T := T) x hx)
        have Hmx : Hid (∀ i, mxF N T d (i + 1) = max (mxF N T d i) ((distL N T).getD i 0)) := Lib.hid (fun i => rfl)
        have Hfull := Lib.hid (mxF_full HTok.out Hsr.out Hpo.out d)
        have Hfa := Lib.hid (fun x hx hf => full_all HTok.out hf x hx)
        have Hnf := Lib.hid (fun hf => not_full (N := N) (T := T) hf)
        have Hdl := Lib.hid hdlen
        clear hdlen
        generalize distL N T = dl at *
        go_loopw [8, 11] (fun uv iv wr => ∃ i : Nat, i ≤ N ∧ iv = .int .i64 i ∧ uv = .int .i64 (mxF N T d i) ∧ Hid (∀ x, x < i → x ∈ wds T) ∧ wr = w4) (fun _ iv _ => N - (intOf iv).toNat)
        case atStart => exact ⟨0, by omega, rfl, rfl, Lib.hid (fun x hx => absurd hx (by omega)), rfl⟩
        case round =>
          obtain ⟨i, hi, rfl, rfl, HA, rfl⟩ := hrel
          by_cases hli : i < N
          · have hil : i < dl.length := by rw [Hdl.out]; exact hli
            have hdi : (i : Int) < (dl.length : Int) := by omega
            obtain ⟨gd, h1, _, cd⟩ := HD4.out.at i hil
            subst h1
            obtain ⟨_, hm1, hm2⟩ := HDM.out i hli
            have hgd : dl.getD i 0 = dl[i] := by simp [List.getD, List.getElem?_eq_getElem hil]
            have Hm := Lib.hid (Hmx.out i)
            rw [hgd] at Hm
            by_cases hin : i ∈ wds T
            · have hz := hm1 hin
              have HA2 : Hid (∀ x, x < i + 1 → x ∈ wds T) := Lib.hid (fun x hx => by
                by_cases h : x = i
                · rw [h]; exact hin
                · exact HA.out x (by omega))
              clear hm1 hm2 hin hgd HA
              generalize mxF N T d i = m1 at *
              generalize dl[i] = z at *
              go_wp2
              go_roundw
              case rel => exact ⟨i + 1, by omega, by go_num, by rw [Hm.out]; congr 1; split <;> omega, HA2, trivial⟩
              case measure => simp [intOf] <;> omega
            · have hz := hm2 hin
              have Hst : Hid (diaK Ps N N = none) := Lib.hid (Hstop.out (by
                by_cases hf : T.length < N
                · exact hf
                · exact absurd (Hfa.out i hli (by omega)) hin))
              clear hm1 hm2 hin hgd HA Hm
              rw [hz] at cd
              go_wp2
              go_ret2
              exact ⟨ret_dd (by rw [Hst.out]; rfl) (by rw [Hst.out]; rfl), hbw2.trans (below_le hbw4 hbw2.size)⟩
          · obtain rfl : i = N := by omega
            have hnl : ¬ (i : Int) < (dl.length : Int) := by rw [Hdl.out]; omega
            have Hn2 := Lib.hid (Hnext.out (fun hf => by
              obtain ⟨x, hx, hxn⟩ := Hnf.out hf
              exact hxn (HA.out x hx)))
            rw [Hfull.out]
            generalize lastD T = ld at *
            go_wp2
            go_roundw
            case rel => exact ⟨k + 1, max d ld, by omega, by go_num, by congr 1; omega, Hn2, hbw4⟩
            case measure => simp [intOf] <;> omega
      · obtain rfl : k = N := by omega
        go_wp2
        go_ret2
        exact ⟨ret_dd (by rw [HD.out]; rfl) (by rw [HD.out]; rfl), hbw2.trans (below_le hbw hbw2.size)⟩
  · obtain ⟨c, hcc⟩ : ∃ c, gC M n [] = c := ⟨_, rfl⟩
    have Hr : Hid (diR M n = 0) := Lib.hid (by unfold diR; rw [if_neg hc])
    have Hk : Hid (diC M n = c) := Lib.hid (by unfold diC; rw [if_neg hc, hcc])
    rw [hcc] at hc HC
    rw [Hr.out, Hk.out]
    have hcb : (c != 0) = true := by simpa using hc
    clear hcc hc
    go_enter Try.func22, Try.ntmps22
    go_wp2_with (first | (with_reducible show wpList _ _ _ _ _ _; refine wpList_load_blk rfl 29 (.tmp 2) rfl w.heap.size 0 rfl (mc M) _ (hB) 98 F2.out _ Try.underlying29 rfl size_mach ?_; rw [F1.out]) | (go_at_call 28; refine HC.out.mono ?_; rintro e w1 ⟨rfl, hb1⟩))
    go_ret2
    exact ⟨rfl, below_step hbw0 hb1⟩
end Go.Proofs.Yticnpajbefflbab
