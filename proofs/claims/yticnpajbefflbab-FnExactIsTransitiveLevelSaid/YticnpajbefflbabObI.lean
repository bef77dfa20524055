/- 'LevelOrbits', 'IsTransitiveLevel': the program. -/
import Derived.Test.YticnpajbefflbabObD
import Derived.Test.YticnpajbefflbabTrL
namespace Go.Proofs.Yticnpajbefflbab
open Go.RowKit
theorem OwnLV.nil' (w : World) (b : Nat) : OwnLV w b (.slice none 0 0) [] [] := OwnLV.nil _ _
theorem ret_bc {a b : Bool} {i j : Int} (h : a = b) (h' : i = j) : Ending.returned (.tuple #[.bool a, .int .i64 i]) = Ending.returned (.tuple #[.bool b, .int .i64 j]) := by rw [h, h']

set_option maxRecDepth 100000 in
set_option maxHeartbeats 4000000 in
theorem iLevelOrbits_calls (M : Mach) (hok : M.Ok) (n : Int) (w : World) :
    Calls Try.prog 11 #[.agg (mc M), .int .i64 n] w fun e w' => ∃ v vs, e = .returned (.tuple #[v, .int .i64 (gC M n [])]) ∧ OwnLV w' w.heap.size v vs (loR M n) ∧ Below w.heap.size w w' := by
  have F1 : Hid (cut (mc M) 0 98 = mc M) := Lib.hid (cut_all _ _ (mc_size hok)); have F2 : Hid (0 + 98 ≤ (mc M).size) := Lib.hid (by rw [mc_size hok]; omega)
  have hB : Blk (w.alloc (.cells (mc M) 29)) w.heap.size (mc M) 29 := Blk.new w _ _
  have hzg := zero_gr
  have hbw0 : Below w.heap.size w (w.alloc (.cells (mc M) 29)) := by (repeat (first | exact Below.refl _ _ | refine below_drew' ?_ | refine below_drewN' ?_ _ | refine below_alloc' ?_ _ | refine below_set' ?_ (by (try simp); (try omega)) _ | refine below_step ?_ (by assumption)))
  have Hg0 : Hid (gr0.size = 3) := Lib.hid rfl
  have Hgl1 := Lib.hid gr0_one
  have Hgo : Hid (over gr0 0 gr0 = gr0) := Lib.hid (over_all _ _ rfl)
  have Hgz : Hid (∀ N' f b, over gr0 0 (gra N' f b) = gra N' f b) := Lib.hid (fun N' f b => over_all _ _ rfl)
  have Hgs : Hid (∀ N' f b, (gra N' f b).size = 3) := Lib.hid (fun N' f b => rfl)
  have Hgl : Hid (∀ N' f b, cut (gra N' f b) 0 3 = gra N' f b) := Lib.hid (fun N' f b => cut_all _ _ rfl)
  have Hgsz : Hid ((Try.prog.info? 53).map (·.size) = some 3) := Lib.hid size_gr
  by_cases hc : gC M n [] = 0
  · obtain ⟨L, S, nn, hg, rfl, hnL⟩ := gC_good hok hc
    have Hr := Lib.hid (loR_good hg hc)
    have HG := Lib.hid (levelGraphOf_good M L S hg nn (.slice none 0 0) [] (by simp) hc (w.alloc (.cells (mc M) 29)) (SeesI.nil _))
    have hS16 := hg.S16
    have hN : L ^ nn ≤ 243 := by have := hg.L2; exact pow_le L nn hg.L3 (by omega)
    have HOr := Lib.hid (fun fv bv W h1 h2 => orbits_calls (L ^ nn) (by omega) fv bv (fwd M L nn S) (bwd M L S nn S) (tabs_ok hg nn) (by rw [fwd_len]; exact hg.S1) (by rw [fwd_len]; exact hS16) (by rw [bwd_len]; exact hS16) W h1 h2)
    rw [hc, Hr.out]
    have HRl := Lib.hid (orbsL_len (fwd M L nn S ++ bwd M L S nn S) (L ^ nn) (L ^ nn))
    clear hc
    generalize orbsL (fwd M L nn S ++ bwd M L S nn S) (L ^ nn) (L ^ nn) = R at *
    generalize gr0 = g0 at *
    generalize L ^ nn = N at *
    go_enter Try.func11, Try.ntmps11
    go_wp2_with (first | (with_reducible show wpList _ _ _ _ _ _; refine wpList_load_blk rfl 29 (.tmp 2) rfl w.heap.size 0 rfl (mc M) _ (hB) 98 F2.out _ Try.underlying29 rfl size_mach ?_; rw [F1.out]) | (go_at_call 32; refine HG.out.mono ?_; rintro e w1 ⟨fv, bv, rfl, hF, hBv, hb1⟩; have HF := Lib.hid hF; have HBv := Lib.hid hBv; obtain ⟨gf, cf, rfl, hgf, hfc⟩ := hF.fw; obtain ⟨gb, cb, rfl, hgb, hbc⟩ := hBv.bw; clear hF hBv hbc hfc; have hX1 : Blk (w1.alloc (.cells g0 53)) w1.heap.size g0 53 := Blk.new _ _ _; have hbw1 := below_alloc' (below_step hbw0 hb1) (.cells g0 53)) | (with_reducible show wpList _ _ _ _ _ _; refine wpList_store_row rfl 53 (.tmp 6) _ rfl w1.heap.size 0 (gra (N : Int) (.slice (some ⟨gf, 0, none⟩) S cf) (.slice (some ⟨gb, 0, none⟩) S cb)) rfl rfl _ _ hX1 (by rw [Hg0.out]; simp [gra]) (size_gra _ _ _) (gr_one _ _ _ _ _ _ _) _ (Hgz.out _ _ _) ?_; intro w2 hs2; have hG2 := hs2.blk; have hb12 : Below w1.heap.size w1 w2 := hs2.below _ _ (Nat.le_refl _) (by (repeat (first | exact Below.refl _ _ | refine below_drew' ?_ | refine below_drewN' ?_ _ | refine below_alloc' ?_ _ | refine below_set' ?_ (by (try simp); (try omega)) _ | refine below_step ?_ (by assumption)))); have hbw2 := hs2.below _ _ (by have := hb1.size; simp at this; omega) hbw1; have hF2 := HF.out.below hb12; have hB2 := HBv.out.below hb12; have hs2s := hbw2.size) | (with_reducible show wpList _ _ _ _ _ _; refine wpList_load_blk rfl 53 _ rfl w1.heap.size 0 rfl (gra (N : Int) (.slice (some ⟨gf, 0, none⟩) S cf) (.slice (some ⟨gb, 0, none⟩) S cb)) _ hG2 3 (by rw [Hgs.out]; omega) _ Try.underlying53 rfl Hgsz.out ?_; rw [Hgl.out]) | (go_at_call 33; refine (HOr.out _ _ _ hF2 hB2).mono ?_; rintro e w3 ⟨v3, vs, rfl, hO, hb3⟩; obtain ⟨ou, cu, rfl, hqq⟩ := hO.view; clear hqq))
    go_ret2
    exact ⟨_, vs, rfl, hO.base_le (by omega), below_step hbw2 hb3⟩
  · obtain ⟨c, hcc⟩ : ∃ c, gC M n [] = c := ⟨_, rfl⟩
    have HG := Lib.hid (levelGraphOf_bad M hok n (.slice none 0 0) [] (by simp) c hcc (by rw [← hcc]; exact hc) (w.alloc (.cells (mc M) 29)) (SeesI.nil _))
    have Hr : Hid (loR M n = []) := Lib.hid (by unfold loR; rw [if_neg hc])
    rw [hcc] at hc ⊢
    have hcb : (c != 0) = true := by simpa using hc
    rw [Hr.out]
    clear hcc hc
    generalize gr0 = g0 at *
    go_enter Try.func11, Try.ntmps11
    go_wp2_with (first | (with_reducible show wpList _ _ _ _ _ _; refine wpList_load_blk rfl 29 (.tmp 2) rfl w.heap.size 0 rfl (mc M) _ (hB) 98 F2.out _ Try.underlying29 rfl size_mach ?_; rw [F1.out]) | (go_at_call 32; refine HG.out.mono ?_; rintro e w1 ⟨rfl, hb1⟩; have hX1 : Blk (w1.alloc (.cells g0 53)) w1.heap.size g0 53 := Blk.new _ _ _; have hs1 := hb1.size; simp at hs1; have hbw1 := below_alloc' (below_step hbw0 hb1) (.cells g0 53)) | (with_reducible show wpList _ _ _ _ _ _; refine wpList_store_row rfl 53 (.tmp 6) _ rfl w1.heap.size 0 g0 rfl rfl _ _ hX1 (by rw [Hg0.out]; omega) (by rw [Hg0.out]; exact size_gr) Hgl1.out _ Hgo.out ?_; intro w2 hs2))
    go_ret2
    exact ⟨_, [], rfl, OwnLV.nil _ _, hs2.below _ _ (by omega) hbw1⟩

set_option maxRecDepth 100000 in
set_option maxHeartbeats 4000000 in
theorem iIsTransitiveLevel_calls (M : Mach) (hok : M.Ok) (n : Int) (w : World) :
    Calls Try.prog 16 #[.agg (mc M), .int .i64 n] w fun e w' => e = .returned (.tuple #[.bool (tlR M n), .int .i64 (gC M n [])]) ∧ Below w.heap.size w w' := by
  have F1 : Hid (cut (mc M) 0 98 = mc M) := Lib.hid (cut_all _ _ (mc_size hok)); have F2 : Hid (0 + 98 ≤ (mc M).size) := Lib.hid (by rw [mc_size hok]; omega)
  have hB : Blk (w.alloc (.cells (mc M) 29)) w.heap.size (mc M) 29 := Blk.new w _ _
  have hzg := zero_gr
  have hbw0 : Below w.heap.size w (w.alloc (.cells (mc M) 29)) := by (repeat (first | exact Below.refl _ _ | refine below_drew' ?_ | refine below_drewN' ?_ _ | refine below_alloc' ?_ _ | refine below_set' ?_ (by (try simp); (try omega)) _ | refine below_step ?_ (by assumption)))
  have Hg0 : Hid (gr0.size = 3) := Lib.hid rfl
  have Hgl1 := Lib.hid gr0_one
  have Hgo : Hid (over gr0 0 gr0 = gr0) := Lib.hid (over_all _ _ rfl)
  have Hgz : Hid (∀ N' f b, over gr0 0 (gra N' f b) = gra N' f b) := Lib.hid (fun N' f b => over_all _ _ rfl)
  have Hgs : Hid (∀ N' f b, (gra N' f b).size = 3) := Lib.hid (fun N' f b => rfl)
  have Hgl : Hid (∀ N' f b, cut (gra N' f b) 0 3 = gra N' f b) := Lib.hid (fun N' f b => cut_all _ _ rfl)
  have Hgsz : Hid ((Try.prog.info? 53).map (·.size) = some 3) := Lib.hid size_gr
  by_cases hc : gC M n [] = 0
  · obtain ⟨L, S, nn, hg, rfl, hnL⟩ := gC_good hok hc
    have Hr := Lib.hid (tlR_good hg hc)
    have HG := Lib.hid (levelGraphOf_good M L S hg nn (.slice none 0 0) [] (by simp) hc (w.alloc (.cells (mc M) 29)) (SeesI.nil _))
    have hS16 := hg.S16
    have hN : L ^ nn ≤ 243 := by have := hg.L2; exact pow_le L nn hg.L3 (by omega)
    have HOr := Lib.hid (fun fv bv W h1 h2 => orbits_calls (L ^ nn) (by omega) fv bv (fwd M L nn S) (bwd M L S nn S) (tabs_ok hg nn) (by rw [fwd_len]; exact hg.S1) (by rw [fwd_len]; exact hS16) (by rw [bwd_len]; exact hS16) W h1 h2)
    rw [hc, Hr.out]
    have HRl := Lib.hid (orbsL_len (fwd M L nn S ++ bwd M L S nn S) (L ^ nn) (L ^ nn))
    clear hc
    generalize orbsL (fwd M L nn S ++ bwd M L S nn S) (L ^ nn) (L ^ nn) = R at *
    generalize gr0 = g0 at *
    generalize L ^ nn = N at *
    go_enter Try.func16, Try.ntmps16
    go_wp2_with (first | (with_reducible show wpList _ _ _ _ _ _; refine wpList_load_blk rfl 29 (.tmp 2) rfl w.heap.size 0 rfl (mc M) _ (hB) 98 F2.out _ Try.underlying29 rfl size_mach ?_; rw [F1.out]) | (go_at_call 32; refine HG.out.mono ?_; rintro e w1 ⟨fv, bv, rfl, hF, hBv, hb1⟩; have HF := Lib.hid hF; have HBv := Lib.hid hBv; obtain ⟨gf, cf, rfl, hgf, hfc⟩ := hF.fw; obtain ⟨gb, cb, rfl, hgb, hbc⟩ := hBv.bw; clear hF hBv hbc hfc; have hX1 : Blk (w1.alloc (.cells g0 53)) w1.heap.size g0 53 := Blk.new _ _ _; have hbw1 := below_alloc' (below_step hbw0 hb1) (.cells g0 53)) | (with_reducible show wpList _ _ _ _ _ _; refine wpList_store_row rfl 53 (.tmp 6) _ rfl w1.heap.size 0 (gra (N : Int) (.slice (some ⟨gf, 0, none⟩) S cf) (.slice (some ⟨gb, 0, none⟩) S cb)) rfl rfl _ _ hX1 (by rw [Hg0.out]; simp [gra]) (size_gra _ _ _) (gr_one _ _ _ _ _ _ _) _ (Hgz.out _ _ _) ?_; intro w2 hs2; have hG2 := hs2.blk; have hb12 : Below w1.heap.size w1 w2 := hs2.below _ _ (Nat.le_refl _) (by (repeat (first | exact Below.refl _ _ | refine below_drew' ?_ | refine below_drewN' ?_ _ | refine below_alloc' ?_ _ | refine below_set' ?_ (by (try simp); (try omega)) _ | refine below_step ?_ (by assumption)))); have hbw2 := hs2.below _ _ (by have := hb1.size; simp at this; omega) hbw1; have hF2 := HF.out.below hb12; have hB2 := HBv.out.below hb12; have hs2s := hbw2.size) | (with_reducible show wpList _ _ _ _ _ _; refine wpList_load_blk rfl 53 _ rfl w1.heap.size 0 rfl (gra (N : Int) (.slice (some ⟨gf, 0, none⟩) S cf) (.slice (some ⟨gb, 0, none⟩) S cb)) _ hG2 3 (by rw [Hgs.out]; omega) _ Try.underlying53 rfl Hgsz.out ?_; rw [Hgl.out]) | (go_at_call 33; refine (HOr.out _ _ _ hF2 hB2).mono ?_; rintro e w3 ⟨v3, vs, rfl, hO, hb3⟩; obtain ⟨ou, cu, rfl, hqq⟩ := hO.view; clear hqq))
    go_ret2
    exact ⟨ret_bc (by rw [Bool.eq_iff_iff, decide_eq_true_iff]; constructor <;> intro hh <;> first | (simp at hh; omega) | (simp; omega) | omega) rfl, below_step hbw2 hb3⟩
  · obtain ⟨c, hcc⟩ : ∃ c, gC M n [] = c := ⟨_, rfl⟩
    have HG := Lib.hid (levelGraphOf_bad M hok n (.slice none 0 0) [] (by simp) c hcc (by rw [← hcc]; exact hc) (w.alloc (.cells (mc M) 29)) (SeesI.nil _))
    have Hr : Hid (tlR M n = false) := Lib.hid (by unfold tlR; rw [if_neg hc])
    rw [hcc] at hc ⊢
    have hcb : (c != 0) = true := by simpa using hc
    rw [Hr.out]
    clear hcc hc
    generalize gr0 = g0 at *
    go_enter Try.func16, Try.ntmps16
    go_wp2_with (first | (with_reducible show wpList _ _ _ _ _ _; refine wpList_load_blk rfl 29 (.tmp 2) rfl w.heap.size 0 rfl (mc M) _ (hB) 98 F2.out _ Try.underlying29 rfl size_mach ?_; rw [F1.out]) | (go_at_call 32; refine HG.out.mono ?_; rintro e w1 ⟨rfl, hb1⟩; have hX1 : Blk (w1.alloc (.cells g0 53)) w1.heap.size g0 53 := Blk.new _ _ _; have hs1 := hb1.size; simp at hs1; have hbw1 := below_alloc' (below_step hbw0 hb1) (.cells g0 53)) | (with_reducible show wpList _ _ _ _ _ _; refine wpList_store_row rfl 53 (.tmp 6) _ rfl w1.heap.size 0 g0 rfl rfl _ _ hX1 (by rw [Hg0.out]; omega) (by rw [Hg0.out]; exact size_gr) Hgl1.out _ Hgo.out ?_; intro w2 hs2))
    go_ret2
    exact ⟨rfl, hs2.below _ _ (by omega) hbw1⟩
end Go.Proofs.Yticnpajbefflbab
