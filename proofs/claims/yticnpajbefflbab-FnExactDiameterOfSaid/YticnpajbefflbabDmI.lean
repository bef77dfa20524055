/- 'DiameterOf': the program. -/
import Derived.Test.YticnpajbefflbabDsI
namespace Go.Proofs.Yticnpajbefflbab
open Go.RowKit

def oR (o : Option Nat) : Int := match o with | some d => (d : Int) | none => 0
def oC (o : Option Nat) : Int := match o with | some _ => 0 | none => 5
theorem diR_good {M : Mach} {L S nn : Nat} (hg : Good M L S) (h : gC M nn [] = 0) : diR M nn = oR (diaK (fwd M L nn S ++ bwd M L S nn S) (L ^ nn) (L ^ nn)) ∧ diC M nn = oC (diaK (fwd M L nn S ++ bwd M L S nn S) (L ^ nn) (L ^ nn)) := by
  unfold diR diC
  rw [if_pos h, if_pos h, diO_good hg]
  exact ⟨rfl, rfl⟩
theorem ret_dd {a b i j : Int} (h : a = b) (h' : i = j) : Ending.returned (.tuple #[.int .i64 a, .int .i64 i]) = Ending.returned (.tuple #[.int .i64 b, .int .i64 j]) := by rw [h, h']
theorem diaK_le {N : Nat} (Ps : List (Int × List Int)) (hT : ∀ k, k < N → TOk N (treeT Ps N k)) : ∀ k d, k ≤ N → diaK Ps N k = some d → d ≤ N
  | 0, d, _, h => by simp [diaK] at h; omega
  | k + 1, d, hk, h => by
    simp only [diaK] at h
    split at h
    · cases h
    · rename_i d' hd'
      split at h
      · cases h
      · have h1 := diaK_le Ps hT k d' (by omega) hd'
        have hT1 := hT k (by omega)
        have hp := treeT_pos Ps N k
        have h2 := hT1.dist ((treeT Ps N k).length - 1) (by omega)
        have h3 := hT1.len
        simp at h
        unfold lastD at h
        omega

set_option maxRecDepth 100000 in
set_option maxHeartbeats 4000000 in
theorem iDiameterOf_calls (M : Mach) (hok : M.Ok) (n : Int) (w : World) :
    Calls Try.prog 23 #[.agg (mc M), .int .i64 n] w fun e w' => e = .returned (.tuple #[.int .i64 (diR M n), .int .i64 (diC M n)]) ∧ Below w.heap.size w w' := by
  have F1 : Hid (cut (mc M) 0 98 = mc M) := Lib.hid (cut_all _ _ (mc_size hok)); have F2 : Hid (0 + 98 ≤ (mc M).size) := Lib.hid (by rw [mc_size hok]; omega)
  have hB : Blk (w.alloc (.cells (mc M) 29)) w.heap.size (mc M) 29 := Blk.new w _ _
  have hzg := zero_gr
  have hbw0 : Below w.heap.size w (w.alloc (.cells (mc M) 29)) := by (repeat (first | exact Below.refl _ _ | refine below_drew' ?_ | refine below_drewN' ?_ _ | refine below_alloc' ?_ _ | refine below_set' ?_ (by (try simp); (try omega)) _ | refine below_step ?_ (by assumption)))
  have Hg0 : Hid (gr0.size = 3) := Lib.hid rfl
  have Hgl1 := Lib.hid gr0_one
  have Hgo : Hid (over gr0 0 gr0 = gr0) := Lib.hid (over_all _ _ rfl)
  have Hgz : Hid (∀ N' f b, over gr0 0 (gra N' f b) = gra N' f b) := Lib.hid (fun N' f b => over_all _ _ rfl)
  have Hgs : Hid (∀ N' f b, (gra N' f b).size = 3) := Lib.hid (fun N' f b => rfl)
  have Hgl : Hid (∀ N' f b, cut (gra N' f b) 0 3 = gra N' f b) := Lib.hid (fun N' f b => cut_all _ _ rfl)
  have Hgsz : Hid ((Try.prog.info? 53).map (·.size) = some 3) := Lib.hid size_gr
  by_cases hc : gC M n [] = 0
  · obtain ⟨L, S, nn, hg, rfl, hnL⟩ := gC_good hok hc
    obtain ⟨e1, e2⟩ := diR_good hg hc
    have HG := Lib.hid (levelGraphOf_good M L S hg nn (.slice none 0 0) [] (by simp) hc (w.alloc (.cells (mc M) 29)) (SeesI.nil _))
    have hS16 := hg.S16
    have hN : L ^ nn ≤ 243 := by have := hg.L2; exact pow_le L nn hg.L3 (by omega)
    have HTr := Lib.hid (fun k (hk : k < L ^ nn) fv bv W h1 h2 => treeOf_calls (L ^ nn) k (by omega) hk fv bv (fwd M L nn S) (bwd M L S nn S) (tabs_ok hg nn) (by rw [fwd_len]; exact hg.S1) (by rw [fwd_len]; exact hS16) (by rw [bwd_len]; exact hS16) W h1 h2)
    rw [e1, e2]
    clear hc e1 e2
    generalize hPs : fwd M L nn S ++ bwd M L S nn S = Ps at *
    clear hPs
    generalize gr0 = g0 at *
    generalize L ^ nn = N at *
    go_enter Try.func23, Try.ntmps23
    go_wp2_with (first | (with_reducible show wpList _ _ _ _ _ _; refine wpList_load_blk rfl 29 (.tmp 2) rfl w.heap.size 0 rfl (mc M) _ (hB) 98 F2.out _ Try.underlying29 rfl size_mach ?_; rw [F1.out]) | (go_at_call 32; refine HG.out.mono ?_; rintro e w1 ⟨fv, bv, rfl, hF, hBv, hb1⟩; have HF := Lib.hid hF; have HBv := Lib.hid hBv; obtain ⟨gf, cf, rfl, hgf, hfc⟩ := hF.fw; obtain ⟨gb, cb, rfl, hgb, hbc⟩ := hBv.bw; clear hF hBv hbc hfc; have hX1 : Blk (w1.alloc (.cells g0 53)) w1.heap.size g0 53 := Blk.new _ _ _; have hbw1 := below_alloc' (below_step hbw0 hb1) (.cells g0 53)) | (with_reducible show wpList _ _ _ _ _ _; refine wpList_store_row rfl 53 (.tmp 6) _ rfl w1.heap.size 0 (gra (N : Int) (.slice (some ⟨gf, 0, none⟩) S cf) (.slice (some ⟨gb, 0, none⟩) S cb)) rfl rfl _ _ hX1 (by rw [Hg0.out]; simp [gra]) (size_gra _ _ _) (gr_one _ _ _ _ _ _ _) _ (Hgz.out _ _ _) ?_; intro w2 hs2; have hG2 := hs2.blk; have hb12 : Below w1.heap.size w1 w2 := hs2.below _ _ (Nat.le_refl _) (by (repeat (first | exact Below.refl _ _ | refine below_drew' ?_ | refine below_drewN' ?_ _ | refine below_alloc' ?_ _ | refine below_set' ?_ (by (try simp); (try omega)) _ | refine below_step ?_ (by assumption)))); have hbw2 := hs2.below _ _ (by have := hb1.size; simp at this; omega) hbw1; have hF2 := HF.out.below hb12; have hB2 := HBv.out.below hb12; have hs2s := hbw2.size; have hs21 := hb12.size; have cG2 := hG2.cell 0; rw [(gra_at _ _ _).1] at cG2))
    have HF2 := Lib.hid hF2
    have HB2 := Lib.hid hB2
    have hs1 := hb1.size
    simp at hs1
    clear hB hbw0 hX1 hbw1 hs2 hb12 hF2 hB2 HF HBv hb1 cG2
    generalize hgv : Value.slice (some ⟨gf, 0, none⟩) S cf = fv at *
    generalize hgv2 : Value.slice (some ⟨gb, 0, none⟩) S cb = bv at *
    go_loopw [8, 22] (fun dv i wr => ∃ (k d : Nat), k ≤ N ∧ i = .int .i64 k ∧ dv = .int .i64 d ∧ d ≤ N ∧ Hid (diaK Ps N k = some d) ∧ Below w2.heap.size w2 wr) (fun _ i _ => N - (intOf i).toNat)
    case atStart => exact ⟨0, 0, by omega, rfl, rfl, by omega, Lib.hid rfl, Below.refl _ _⟩
    case round =>
      obtain ⟨k, d, hk, rfl, rfl, hdk, HD, hbw⟩ := hrel
      obtain ⟨w3, rfl⟩ : ∃ x, x = wr := ⟨_, rfl⟩
      have hG3 := hG2.keptAll hbw
      have cG := hG3.cell 0
      rw [(gra_at _ _ _).1] at cG
      by_cases hlt : k < N
      · have hki : (k : Int) < (N : Int) := by omega
        have hF3 := HF2.out.below hbw
        have hB3 := HB2.out.below hbw
        subst hgv hgv2
        have HTk := Lib.hid (HTr.out k hlt _ _ w3 hF3 hB3)
        have Hstop := Lib.hid (diaK_stop Ps N k hlt)
        have Hnext := Lib.hid (diaK_next Ps N k d HD.out)
        clear hF3 hB3
        have hpos := treeT_pos Ps N k
        have Hld : Hid (lastD (treeT Ps N k) = (entAt (treeT Ps N k) ((treeT Ps N k).length - 1)).dist) := Lib.hid rfl
        obtain ⟨m, hm⟩ : ∃ m, (treeT Ps N k).length = m + 1 := ⟨(treeT Ps N k).length - 1, by omega⟩
        have Hm := Lib.hid hm
        rw [hm, Nat.add_sub_cancel] at Hld
        rw [hm] at Hstop Hnext
        clear hpos hm
        generalize treeT Ps N k = T at *
        by_cases hful : m + 1 < N
        · have hfi : (m : Int) + 1 < (N : Int) := by omega
          have Hz := Lib.hid (Hstop.out hful)
          clear Hstop Hnext
          go_wp2_with (first | (with_reducible show wpList _ _ _ _ _ _; refine wpList_load_blk rfl 53 _ rfl w1.heap.size 0 rfl (gra (N : Int) (.slice (some ⟨gf, 0, none⟩) S cf) (.slice (some ⟨gb, 0, none⟩) S cb)) _ hG3 3 (by rw [Hgs.out]; omega) _ Try.underlying53 rfl Hgsz.out ?_; rw [Hgl.out]) | (go_at_call 36; refine HTk.out.mono ?_; rintro e w4 ⟨t, gn, qv, bs, rfl, hT4, hb4⟩; have cG4 := (hG3.keptAll hb4).cell 0; rw [(gra_at _ _ _).1] at cG4; obtain ⟨oq, cq, rfl, hqv⟩ := hT4.view; clear hqv; have ct0 := hT4.tb.cell 0; rw [Hm.out] at ct0; simp at ct0))
          go_ret2
          exact ⟨ret_dd (by rw [Hz.out]; rfl) (by rw [Hz.out]; rfl), hbw2.trans (below_le (below_step hbw hb4) hbw2.size)⟩
        · have hfi : ¬ (m : Int) + 1 < (N : Int) := by omega
          have Hz := Lib.hid (Hnext.out hful)
          clear Hstop Hnext
          go_wp2_with (first | (with_reducible show wpList _ _ _ _ _ _; refine wpList_load_blk rfl 53 _ rfl w1.heap.size 0 rfl (gra (N : Int) (.slice (some ⟨gf, 0, none⟩) S cf) (.slice (some ⟨gb, 0, none⟩) S cb)) _ hG3 3 (by rw [Hgs.out]; omega) _ Try.underlying53 rfl Hgsz.out ?_; rw [Hgl.out]) | (go_at_call 36; refine HTk.out.mono ?_; rintro e w4 ⟨t, gn, qv, bs, rfl, hT4, hb4⟩; have cG4 := (hG3.keptAll hb4).cell 0; rw [(gra_at _ _ _).1] at cG4; obtain ⟨oq, cq, rfl, hqv⟩ := hT4.view; have hbl := hT4.blen; rw [Hm.out] at hqv hbl; obtain ⟨gq, rfl, hcq⟩ := hqv (by omega); have ct0 := hT4.tb.cell 0; rw [Hm.out] at ct0; simp at ct0; have cq1 := hcq m (by omega); have cN := (hT4.nodes m (by rw [Hm.out]; omega) (by omega)).cell 3; simp [nodeC] at cN; unfold ptr at cq1; clear hcq; have hle := hT4.ok.len; rw [Hm.out] at hle; have hdm := hT4.ok.dist m (by rw [Hm.out]; omega); rw [← Hld.out] at cN hdm; generalize bs[m] = yb at *; generalize lastD T = ld at *))
          go_roundw
          case rel => exact ⟨k + 1, max d ld, by omega, by go_num, by congr 1; split <;> omega, by omega, Hz, below_step hbw hb4⟩
          case measure => simp [intOf] <;> omega
      · obtain rfl : k = N := by omega
        go_wp2
        go_ret2
        exact ⟨ret_dd (by rw [HD.out]; rfl) (by rw [HD.out]; rfl), hbw2.trans (below_le hbw hbw2.size)⟩
  · obtain ⟨c, hcc⟩ : ∃ c, gC M n [] = c := ⟨_, rfl⟩
    have HG := Lib.hid (levelGraphOf_bad M hok n (.slice none 0 0) [] (by simp) c hcc (by rw [← hcc]; exact hc) (w.alloc (.cells (mc M) 29)) (SeesI.nil _))
    have Hr : Hid (diR M n = 0) := Lib.hid (by unfold diR; rw [if_neg hc])
    have Hk : Hid (diC M n = c) := Lib.hid (by unfold diC; rw [if_neg hc, hcc])
    rw [Hr.out, Hk.out]
    have hcb : (c != 0) = true := by rw [hcc] at hc; simpa using hc
    clear hcc hc
    generalize gr0 = g0 at *
    go_enter Try.func23, Try.ntmps23
    go_wp2_with (first | (with_reducible show wpList _ _ _ _ _ _; refine wpList_load_blk rfl 29 (.tmp 2) rfl w.heap.size 0 rfl (mc M) _ (hB) 98 F2.out _ Try.underlying29 rfl size_mach ?_; rw [F1.out]) | (go_at_call 32; refine HG.out.mono ?_; rintro e w1 ⟨rfl, hb1⟩; have hX1 : Blk (w1.alloc (.cells g0 53)) w1.heap.size g0 53 := Blk.new _ _ _; have hs1 := hb1.size; simp at hs1; have hbw1 := below_alloc' (below_step hbw0 hb1) (.cells g0 53)) | (with_reducible show wpList _ _ _ _ _ _; refine wpList_store_row rfl 53 (.tmp 6) _ rfl w1.heap.size 0 g0 rfl rfl _ _ hX1 (by rw [Hg0.out]; omega) (by rw [Hg0.out]; exact size_gr) Hgl1.out _ Hgo.out ?_; intro w2 hs2))
    go_ret2
    exact ⟨rfl, hs2.below _ _ (by omega) hbw1⟩
end Go.Proofs.Yticnpajbefflbab
