/- 'WayTo': the program. -/
import Derived.Test.YticnpajbefflbabWyD
namespace Go.Proofs.Yticnpajbefflbab
open Go.RowKit

theorem growT_ok {N : Nat} {ps : List (Int × List Int)} (hp : TabsOk N ps) : ∀ f i T, TOk N T → TOk N (growT ps f i T)
  | 0, _, _, h => h
  | f + 1, i, T, h => by
    unfold growT
    split
    · rename_i hi
      exact growT_ok hp f (i + 1) _ (h.vis hp hi ps.length (Nat.le_refl _)).1
    · exact h
theorem treeT_ok (N k : Nat) (hk : k < N) (ps : List (Int × List Int)) (hp : TabsOk N ps) : TOk N (treeT ps N k) := growT_ok hp (N + 1) 0 _ (TOk.first hk)
theorem wy_good {M : Mach} {L S nn kk ll : Nat} (hg : Good M L S) (h : gC M nn [(kk : Int), (ll : Int)] = 0) :
    wyC M nn kk ll = (if ll ∈ wds (treeT (fwd M L nn S ++ bwd M L S nn S) (L ^ nn) kk) then 0 else 5) ∧ wyR M nn kk ll = (if ll ∈ wds (treeT (fwd M L nn S ++ bwd M L S nn S) (L ^ nn) kk) then wayL (treeT (fwd M L nn S ++ bwd M L S nn S) (L ^ nn) kk) ((wds (treeT (fwd M L nn S ++ bwd M L S nn S) (L ^ nn) kk)).idxOf ll) else []) := by
  unfold wyC wyR
  rw [if_pos h, trOf_good hg, Int.toNat_natCast]
  refine ⟨rfl, ?_⟩
  by_cases hm : ll ∈ wds (treeT (fwd M L nn S ++ bwd M L S nn S) (L ^ nn) kk)
  · rw [if_pos ⟨h, hm⟩, if_pos hm]
  · rw [if_neg (fun x => hm x.2), if_neg hm]
theorem wy_bad {M : Mach} {n k l c : Int} (h : gC M n [k, l] = c) (h0 : c ≠ 0) : wyC M n k l = c ∧ wyR M n k l = [] := by
  have hn : gC M n [k, l] ≠ 0 := by rw [h]; exact h0
  unfold wyC wyR
  rw [if_neg hn, if_neg (fun x => hn x.1)]
  exact ⟨h, rfl⟩
theorem wyR_len (M : Mach) (hok : M.Ok) (n k l : Int) : (wyR M n k l).length ≤ 1048576 := by
  by_cases h : gC M n [k, l] = 0
  · obtain ⟨L, S, nn, hg, rfl, hn, hk⟩ := gC_words hok h
    obtain ⟨kk, rfl, hkk⟩ := hk k (by simp)
    obtain ⟨ll, rfl, hll⟩ := hk l (by simp)
    rw [(wy_good hg h).2]
    split
    · rename_i hm
      have hT := treeT_ok (L ^ nn) kk hkk _ (tabs_ok hg nn)
      have h1 := wayL_len hT _ _ (Nat.le_refl _) (idx_lt hm)
      have h2 := idx_lt hm
      have h3 := hT.len
      have h4 := hg.L2
      have h5 := pow_le L nn hg.L3 (by omega)
      omega
    · simp
  · rw [(wy_bad rfl h).2]; simp

set_option maxRecDepth 100000 in
set_option maxHeartbeats 4000000 in
theorem iWayTo_calls (M : Mach) (hok : M.Ok) (n : Int) (k : Int) (l : Int) (w : World) :
    Calls Try.prog 25 #[.agg (mc M), .int .i64 n, .int .i64 k, .int .i64 l] w fun e w' => ∃ v, e = .returned (.tuple #[v, .int .i64 (wyC M n k l)]) ∧ OwnI w' w.heap.size v (wyR M n k l) ∧ Below w.heap.size w w' := by
  have F1 : Hid (cut (mc M) 0 98 = mc M) := Lib.hid (cut_all _ _ (mc_size hok)); have F2 : Hid (0 + 98 ≤ (mc M).size) := Lib.hid (by rw [mc_size hok]; omega)
  have hB : Blk (w.alloc (.cells (mc M) 29)) w.heap.size (mc M) 29 := Blk.new w _ _
  have hzg := zero_gr
  have hbw0 : Below w.heap.size w (w.alloc (.cells (mc M) 29)) := by (repeat (first | exact Below.refl _ _ | refine below_drew' ?_ | refine below_drewN' ?_ _ | refine below_alloc' ?_ _ | refine below_set' ?_ (by (try simp); (try omega)) _ | refine below_step ?_ (by assumption)))
  have Hg0 : Hid (gr0.size = 3) := Lib.hid rfl
  have Hgl1 := Lib.hid gr0_one
  have Hgo : Hid (over gr0 0 gr0 = gr0) := Lib.hid (over_all _ _ rfl)
  have Hgz : Hid (∀ N' f b, over gr0 0 (gra N' f b) = gra N' f b) := Lib.hid (fun N' f b => over_all _ _ rfl)
  have Hgs : Hid (∀ N' f b, (gra N' f b).size = 3) := Lib.hid (fun N' f b => rfl)
  have Hgl : Hid (∀ N' f b, cut (gra N' f b) 0 3 = gra N' f b) := Lib.hid (fun N' f b => cut_all _ _ rfl)
  have Hgsz : Hid ((Try.prog.info? 53).map (·.size) = some 3) := Lib.hid size_gr
  have hBW := hB.alloc (.cells #[.int .i64 k, .int .i64 l] 2)
  have hbwW := below_alloc' hbw0 (.cells #[.int .i64 k, .int .i64 l] 2)
  by_cases hc : gC M n [k, l] = 0
  · obtain ⟨L, S, nn, hg, rfl, hnL, hkk⟩ := gC_words hok hc
    obtain ⟨kk, rfl, hklt⟩ := hkk k (by simp)
    obtain ⟨ll, rfl, hll⟩ := hkk l (by simp)
    obtain ⟨e1, e2⟩ := wy_good hg hc
    clear hkk
    have hlW := hBW.lt
    have HG := Lib.hid (levelGraphOf_good M L S hg nn (.slice (some ⟨w.heap.size + 1, 0, none⟩) 2 2) [(kk : Int), (ll : Int)] (by simp) hc ((w.alloc (.cells (mc M) 29)).alloc (.cells #[.int .i64 (kk : Int), .int .i64 (ll : Int)] 2)) (sees_words2 _ _ _ _ (Blk.new_at _ _ _ _ (by simp))))
    have hS16 := hg.S16
    have hN : L ^ nn ≤ 243 := by have := hg.L2; exact pow_le L nn hg.L3 (by omega)
    have HTr := Lib.hid (fun fv bv W h1 h2 => treeOf_calls (L ^ nn) kk (by omega) hklt fv bv (fwd M L nn S) (bwd M L S nn S) (tabs_ok hg nn) (by rw [fwd_len]; exact hg.S1) (by rw [fwd_len]; exact hS16) (by rw [bwd_len]; exact hS16) W h1 h2)
    rw [e1, e2]
    clear hc e1 e2
    generalize treeT (fwd M L nn S ++ bwd M L S nn S) (L ^ nn) kk = T at *
    generalize gr0 = g0 at *
    generalize L ^ nn = N at *
    have hlli : (ll : Int) < (N : Int) := by omega
    by_cases hin : ll ∈ wds T
    · rw [if_pos hin, if_pos hin]
      have hidx := idx_lt hin
      have HW := Lib.hid (fun base t bs gn qv b hb W h => way_calls base t N T bs gn qv (by omega) ((wds T).idxOf ll) hidx b hb W h)
      go_enter Try.func25, Try.ntmps25
      go_wp2_with (first | (with_reducible show wpList _ _ _ _ _ _; refine wpList_load_blk rfl 29 (.tmp 4) rfl w.heap.size 0 rfl (mc M) _ (by first | exact hBW | exact hB) 98 F2.out _ Try.underlying29 rfl size_mach ?_; rw [F1.out]) | (go_at_call 32; refine HG.out.mono ?_; rintro e w1 ⟨fv, bv, rfl, hF, hBv, hb1⟩; have HF := Lib.hid hF; have HBv := Lib.hid hBv; obtain ⟨gf, cf, rfl, hgf, hfc⟩ := hF.fw; obtain ⟨gb, cb, rfl, hgb, hbc⟩ := hBv.bw; clear hF hBv hbc hfc; have hX1 : Blk (w1.alloc (.cells g0 53)) w1.heap.size g0 53 := Blk.new _ _ _; have hbw1 := below_alloc' (below_step hbwW hb1) (.cells g0 53)) | (with_reducible show wpList _ _ _ _ _ _; refine wpList_store_row rfl 53 (.tmp 10) _ rfl w1.heap.size 0 (gra (N : Int) (.slice (some ⟨gf, 0, none⟩) S cf) (.slice (some ⟨gb, 0, none⟩) S cb)) rfl rfl _ _ hX1 (by rw [Hg0.out]; simp [gra]) (size_gra _ _ _) (gr_one _ _ _ _ _ _ _) _ (Hgz.out _ _ _) ?_; intro w2 hs2; have hG2 := hs2.blk; have hb12 : Below w1.heap.size w1 w2 := hs2.below _ _ (Nat.le_refl _) (by (repeat (first | exact Below.refl _ _ | refine below_drew' ?_ | refine below_drewN' ?_ _ | refine below_alloc' ?_ _ | refine below_set' ?_ (by (try simp); (try omega)) _ | refine below_step ?_ (by assumption)))); have hbw2 := hs2.below _ _ (by have := hb1.size; simp at this; omega) hbw1; have hF2 := HF.out.below hb12; have hB2 := HBv.out.below hb12; have hs2s := hbw2.size; have hs21 := hb12.size) | (with_reducible show wpList _ _ _ _ _ _; refine wpList_load_blk rfl 53 _ rfl w1.heap.size 0 rfl (gra (N : Int) (.slice (some ⟨gf, 0, none⟩) S cf) (.slice (some ⟨gb, 0, none⟩) S cb)) _ hG2 3 (by rw [Hgs.out]; omega) _ Try.underlying53 rfl Hgsz.out ?_; rw [Hgl.out]) | (go_at_call 36; refine (HTr.out _ _ _ hF2 hB2).mono ?_; rintro e w4 ⟨t, gn, qv, bs, rfl, hT4, hb4⟩; have hbw4 := below_step hbw2 hb4; have ct1 := hT4.tb.cell 1; simp at ct1; have cn := hT4.nod.cell ll; rw [nodesC_at _ _ _ _ hll] at cn; have hib : (wds T).idxOf ll < bs.length := (by rw [hT4.blen]; exact hidx); rw [nodeP_in hib] at cn; unfold ptr at cn; have hbb : bs[(wds T).idxOf ll]? = some bs[(wds T).idxOf ll] := List.getElem?_eq_getElem hib; generalize bs[(wds T).idxOf ll] = yb at *) | (go_at_call 38; refine (HW.out _ _ _ _ _ _ hbb _ hT4).mono ?_; rintro e w5 ⟨v5, rfl, hO5, hb5⟩))

      go_ret2
      exact ⟨_, rfl, hO5.base_le' hbw4.size, below_step hbw4 hb5⟩
    · rw [if_neg hin, if_neg hin]
      go_enter Try.func25, Try.ntmps25
      go_wp2_with (first | (with_reducible show wpList _ _ _ _ _ _; refine wpList_load_blk rfl 29 (.tmp 4) rfl w.heap.size 0 rfl (mc M) _ (by first | exact hBW | exact hB) 98 F2.out _ Try.underlying29 rfl size_mach ?_; rw [F1.out]) | (go_at_call 32; refine HG.out.mono ?_; rintro e w1 ⟨fv, bv, rfl, hF, hBv, hb1⟩; have HF := Lib.hid hF; have HBv := Lib.hid hBv; obtain ⟨gf, cf, rfl, hgf, hfc⟩ := hF.fw; obtain ⟨gb, cb, rfl, hgb, hbc⟩ := hBv.bw; clear hF hBv hbc hfc; have hX1 : Blk (w1.alloc (.cells g0 53)) w1.heap.size g0 53 := Blk.new _ _ _; have hbw1 := below_alloc' (below_step hbwW hb1) (.cells g0 53)) | (with_reducible show wpList _ _ _ _ _ _; refine wpList_store_row rfl 53 (.tmp 10) _ rfl w1.heap.size 0 (gra (N : Int) (.slice (some ⟨gf, 0, none⟩) S cf) (.slice (some ⟨gb, 0, none⟩) S cb)) rfl rfl _ _ hX1 (by rw [Hg0.out]; simp [gra]) (size_gra _ _ _) (gr_one _ _ _ _ _ _ _) _ (Hgz.out _ _ _) ?_; intro w2 hs2; have hG2 := hs2.blk; have hb12 : Below w1.heap.size w1 w2 := hs2.below _ _ (Nat.le_refl _) (by (repeat (first | exact Below.refl _ _ | refine below_drew' ?_ | refine below_drewN' ?_ _ | refine below_alloc' ?_ _ | refine below_set' ?_ (by (try simp); (try omega)) _ | refine below_step ?_ (by assumption)))); have hbw2 := hs2.below _ _ (by have := hb1.size; simp at this; omega) hbw1; have hF2 := HF.out.below hb12; have hB2 := HBv.out.below hb12; have hs2s := hbw2.size; have hs21 := hb12.size) | (with_reducible show wpList _ _ _ _ _ _; refine wpList_load_blk rfl 53 _ rfl w1.heap.size 0 rfl (gra (N : Int) (.slice (some ⟨gf, 0, none⟩) S cf) (.slice (some ⟨gb, 0, none⟩) S cb)) _ hG2 3 (by rw [Hgs.out]; omega) _ Try.underlying53 rfl Hgsz.out ?_; rw [Hgl.out]) | (go_at_call 36; refine (HTr.out _ _ _ hF2 hB2).mono ?_; rintro e w4 ⟨t, gn, qv, bs, rfl, hT4, hb4⟩; have hbw4 := below_step hbw2 hb4; have ct1 := hT4.tb.cell 1; simp at ct1; have cn := hT4.nod.cell ll; rw [nodesC_at _ _ _ _ hll] at cn; rw [nodeP_out hT4.blen hin] at cn))

      go_ret2
      exact ⟨_, rfl, OwnI.nil _ _, hbw4⟩
  · obtain ⟨c, hcc⟩ : ∃ c, gC M n [k, l] = c := ⟨_, rfl⟩
    have HG := Lib.hid (levelGraphOf_bad M hok n (.slice (some ⟨w.heap.size + 1, 0, none⟩) 2 2) [k, l] (by simp) c hcc (by rw [← hcc]; exact hc) ((w.alloc (.cells (mc M) 29)).alloc (.cells #[.int .i64 k, .int .i64 l] 2)) (sees_words2 _ _ _ _ (Blk.new_at _ _ _ _ (by simp))))
    obtain ⟨e1, e2⟩ := wy_bad hcc (by rw [← hcc]; exact hc)
    rw [e1, e2]
    have hcb : (c != 0) = true := by rw [hcc] at hc; simpa using hc
    clear hcc hc
    generalize gr0 = g0 at *
    go_enter Try.func25, Try.ntmps25
    go_wp2_with (first | (with_reducible show wpList _ _ _ _ _ _; refine wpList_load_blk rfl 29 (.tmp 4) rfl w.heap.size 0 rfl (mc M) _ (by first | exact hBW | exact hB) 98 F2.out _ Try.underlying29 rfl size_mach ?_; rw [F1.out]) | (go_at_call 32; refine HG.out.mono ?_; rintro e w1 ⟨rfl, hb1⟩; have hX1 : Blk (w1.alloc (.cells g0 53)) w1.heap.size g0 53 := Blk.new _ _ _; have hs1 := hb1.size; simp at hs1; have hbw1 := below_alloc' (below_step hbwW hb1) (.cells g0 53)) | (with_reducible show wpList _ _ _ _ _ _; refine wpList_store_row rfl 53 (.tmp 10) _ rfl w1.heap.size 0 g0 rfl rfl _ _ hX1 (by rw [Hg0.out]; omega) (by rw [Hg0.out]; exact size_gr) Hgl1.out _ Hgo.out ?_; intro w2 hs2))
    go_ret2
    exact ⟨_, rfl, OwnI.nil _ _, hs2.below _ _ (by omega) hbw1⟩
end Go.Proofs.Yticnpajbefflbab
