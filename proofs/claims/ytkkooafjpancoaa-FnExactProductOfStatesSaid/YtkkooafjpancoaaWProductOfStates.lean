/- The statement on 'ProductOfStates', walked. Written by gen/genlawp.py. -/
import Derived.Test.YtkkooafjpancoaaPdI
import Derived.Test.YtkkooafjpancoaaConv
import Derived.Test.YtkkooafjpancoaaEqB
namespace Go.Proofs.Ytkkooafjpancoaa
open Go.RowKit

set_option linter.unusedVariables false in
set_option maxRecDepth 100000 in
set_option maxHeartbeats 4000000 in
theorem lawProductOfStates (M : Mach) (hok : M.Ok) (k1 : Int) (hk1 : (Lit.int .i64 k1).wf = true) (J : Mach) (hoj : J.Ok) (k3 : Int) (hk3 : (Lit.int .i64 k3).wf = true) (w : World) :
    Calls Try.prog 6 #[.agg (mc M), .int .i64 k1, .agg (mc J), .int .i64 k3] w fun e w' => e = .returned (.bool true) ∧ Below w.heap.size w w' := by
  have hz := zero_mach
  have F1 : Hid (cut (mc M) 0 98 = mc M) := Lib.hid (cut_all _ _ (mc_size hok))
  have F2 : Hid (0 + 98 ≤ (mc M).size) := Lib.hid (by rw [mc_size hok]; omega)
  have G1 : Hid (cut (mc J) 0 98 = mc J) := Lib.hid (cut_all _ _ (mc_size hoj))
  have G2 : Hid (0 + 98 ≤ (mc J).size) := Lib.hid (by rw [mc_size hoj]; omega)
  have hM0 : Blk ((w.alloc (.cells (mc M) 25)).alloc (.cells (mc J) 25)) w.heap.size (mc M) 25 := (Blk.new w _ _).alloc _
  have hJ0 : Blk ((w.alloc (.cells (mc M) 25)).alloc (.cells (mc J) 25)) (w.heap.size + 1) (mc J) 25 := Blk.new_at _ _ _ _ (by simp)
  have hb0 : Below w.heap.size w ((w.alloc (.cells (mc M) 25)).alloc (.cells (mc J) 25)) := by (repeat (first | exact Below.refl _ _ | refine below_drew' ?_ | refine below_drewN' ?_ _ | refine below_alloc' ?_ _ | refine below_set' ?_ (by (try simp); (try omega)) _ | refine below_step ?_ (by assumption)))
  have HtM := Lib.hid (fun W => toMachine_calls M hok W)
  have HtJ := Lib.hid (fun W => toMachine_calls J hoj W)
  have HS := Lib.hid (fun W => sProductOfStates_calls M hok k1 J hoj k3 W)
  have HI := Lib.hid (fun W => iProductOfStates_calls M hok k1 J hoj k3 W)
  have hRok := prR_ok hok hoj k1 k3
  generalize prR M k1 J k3 = R at *
  generalize prC M k1 J k3 = c at *
  have HE := Lib.hid (fun W => eqMachine_same R hRok W)
  have HR := Lib.hid (mc_size hRok)
  have Hzs := Lib.hid (mc_size zeroM_ok)
  have Hov : Hid (over (mc zeroM) 0 (mc R) = mc R) := Lib.hid (over_all _ _ (by rw [HR.out, Hzs.out]))
  have R1 : Hid (cut (mc R) 0 98 = mc R) := Lib.hid (cut_all _ _ HR.out)
  have hne : ¬ mc zeroM = #[] := fun e => by have := congrArg Array.size e; rw [mc_size zeroM_ok] at this; simp at this
  clear hRok hok hoj
  go_enter Try.func6, Try.ntmps6
  go_wp2_with fail
  refine Code.wp_mono (Q := (fun e a W => match e with | .normal => ∃ g, a = { tmps := #[Value.agg (mc M), Value.int .i64 k1, Value.agg (mc J), Value.int .i64 k3, Value.pointer (some ⟨w.heap.size, 0, none⟩), undef, Value.pointer (some ⟨w.heap.size + 1, 0, none⟩), undef, Value.bool false, Value.pointer (some ⟨g, 0, none⟩), Value.int .i64 c, undef, undef, Value.tuple #[.agg (mc R), .int .i64 c], Value.agg (mc M), Value.agg (mc M), Value.int .i64 k1, Value.agg (mc J), Value.agg (mc J), Value.int .i64 k3, Value.tuple #[.agg (mc R), .int .i64 c], Value.agg (mc R), Value.int .i64 c, undef, undef, undef, undef, undef, undef, undef, undef, undef, undef, undef, undef, undef, undef, undef, undef, undef, undef, undef], defers := [] } ∧ Blk W w.heap.size (mc M) 25 ∧ Blk W (w.heap.size + 1) (mc J) 25 ∧ Below w.heap.size w W ∧ Blk W g (mc R) 28 | _ => False)) ?rest ?region
  case region =>
    refine wp_region_held_drew (S := fun W => (Blk W w.heap.size (mc M) 25 ∧ Blk W (w.heap.size + 1) (mc J) 25 ∧ Below w.heap.size w W)) (by kernel_rfl) ⟨hM0.drew, hJ0.drew, below_drew' hb0⟩ (fun hS0 => ?_)
    clear hM0 hJ0 hb0
    generalize World.drew _ = wd at *
    (refine hK_load 0 rfl (by kernel_rfl) (by kernel_rfl) (by kernel_rfl) 25 _ rfl w.heap.size 0 rfl (mc M) _ (fun W hW => hW.1) 98 F2.out _ Try.underlying25 rfl size_lmach _ F1.out (fun _ _ _ h => h) rfl hS0 ?_; (intro K hK; go_simp; refine hK _ ?_; clear hK K))
    (refine hK_take 2 (.int .i64 k1) rfl (by kernel_rfl) (by kernel_rfl) (by kernel_rfl) (fun _ _ _ h => h) rfl (fun W _ => by go_simp) hS0 ?_; (intro K hK; go_simp; refine hK _ ?_; clear hK K))
    (refine hK_load 3 rfl (by kernel_rfl) (by kernel_rfl) (by kernel_rfl) 25 _ rfl (w.heap.size + 1) 0 rfl (mc J) _ (fun W hW => hW.2.1) 98 G2.out _ Try.underlying25 rfl size_lmach _ G1.out (fun _ _ _ h => h) rfl hS0 ?_; (intro K hK; go_simp; refine hK _ ?_; clear hK K))
    (refine hK_take 5 (.int .i64 k3) rfl (by kernel_rfl) (by kernel_rfl) (by kernel_rfl) (fun _ _ _ h => h) rfl (fun W _ => by go_simp) hS0 ?_; (intro K hK; go_simp; refine hK _ ?_; clear hK K))
    refine wpAnyH_ready (rs := [1, 10]) (by kernel_rfl) (by simp) ?_
    refine AllReadyH.cons rfl (fun K hK => ?_) (AllReadyH.cons rfl (fun K hK => ?_) AllReadyH.nil)
    · go_simp
      refine (HtM.out wd).mono ?_
      rintro e W1 ⟨rfl, hc1⟩
      have hS1 : (Blk W1 w.heap.size (mc M) 25 ∧ Blk W1 (w.heap.size + 1) (mc J) 25 ∧ Below w.heap.size w W1) := ⟨hS0.1.keptAll hc1, hS0.2.1.keptAll hc1, below_step hS0.2.2 hc1⟩
      go_simp
      refine hK.out _ _ hS1 (fun hT1 => ?_)
      clear hK K hc1 hT1
      refine wpAnyH_ready (rs := [4, 10]) (by kernel_rfl) (by simp) ?_
      refine AllReadyH.cons rfl (fun K hK => ?_) (AllReadyH.cons rfl (fun K hK => ?_) AllReadyH.nil)
      · go_simp
        refine (HtJ.out W1).mono ?_
        rintro e W2 ⟨rfl, hc2⟩
        have hS2 : (Blk W2 w.heap.size (mc M) 25 ∧ Blk W2 (w.heap.size + 1) (mc J) 25 ∧ Below w.heap.size w W2) := ⟨hS1.1.keptAll hc2, hS1.2.1.keptAll hc2, below_step hS1.2.2 hc2⟩
        go_simp
        refine hK.out _ _ hS2 (fun hT2 => ?_)
        clear hK K hc2 hT2
        refine wpAnyH_ready (rs := [6, 10]) (by kernel_rfl) (by simp) ?_
        refine AllReadyH.cons rfl (fun K hK => ?_) (AllReadyH.cons rfl (fun K hK => ?_) AllReadyH.nil)
        · go_simp
          refine (HS.out W2).mono ?_
          rintro e W3 ⟨rfl, hc3⟩
          have hS3 : (Blk W3 w.heap.size (mc M) 25 ∧ Blk W3 (w.heap.size + 1) (mc J) 25 ∧ Below w.heap.size w W3) := ⟨hS2.1.keptAll hc3, hS2.2.1.keptAll hc3, below_step hS2.2.2 hc3⟩
          go_simp
          refine hK.out _ _ hS3 (fun hT3 => ?_)
          clear hK K hc3 hT3
          (refine hK_take 7 (Value.tuple #[.agg (mc R), .int .i64 c]) rfl (by kernel_rfl) (by kernel_rfl) (by kernel_rfl) (fun _ _ _ h => h) rfl (fun W _ => by go_simp) hS3 ?_; (intro K hK; go_simp; refine hK _ ?_; clear hK K))
          (refine hK_take 8 (.agg (mc R)) rfl (by kernel_rfl) (by kernel_rfl) (by kernel_rfl) (fun _ _ _ h => h) rfl (fun W _ => by go_simp) hS3 ?_; (intro K hK; go_simp; refine hK _ ?_; clear hK K))
          (refine hK_take 9 (.int .i64 c) rfl (by kernel_rfl) (by kernel_rfl) (by kernel_rfl) (fun _ _ _ h => h) rfl (fun W _ => by go_simp) hS3 ?_; (intro K hK; go_simp; refine hK _ ?_; clear hK K))
          refine wpAnyH_ready (rs := [10]) (by kernel_rfl) (by simp) ?_
          refine AllReadyH.cons rfl (fun K hK => ?_) AllReadyH.nil
          go_simp
          have hal4 : Below W3.heap.size W3 (W3.alloc (.cells (mc zeroM) 28)) := (Below.refl _ _).alloc (Nat.le_refl _) _
          have hge : w.heap.size ≤ W3.heap.size := hS3.2.2.size
          have hgM : w.heap.size < W3.heap.size := hS3.1.lt
          have hgJ : w.heap.size + 1 < W3.heap.size := hS3.2.1.lt
          have hS4 : (Blk (W3.alloc (.cells (mc zeroM) 28)) w.heap.size (mc M) 25 ∧ Blk (W3.alloc (.cells (mc zeroM) 28)) (w.heap.size + 1) (mc J) 25 ∧ Below w.heap.size w (W3.alloc (.cells (mc zeroM) 28))) := ⟨hS3.1.keptAll hal4, hS3.2.1.keptAll hal4, below_step hS3.2.2 hal4⟩
          have hX4 : Blk (W3.alloc (.cells (mc zeroM) 28)) W3.heap.size (mc zeroM) 28 := Blk.new _ _ _
          refine hK.out _ _ hS4 (fun hT4 => ?_)
          clear hK K hal4 hT4
          generalize (W3.alloc (.cells (mc zeroM) 28)) = W4 at *
          generalize W3.heap.size = gx at *
          have hltM := hS4.1.lt
          have hltJ := hS4.2.1.lt
          refine hK_store 11 rfl (by kernel_rfl) rfl 28 _ _ rfl gx 0 (mc R) rfl rfl _ _ hX4 (by rw [HR.out, Hzs.out]; omega) (by rw [HR.out]; exact size_mach) (mc_one _) _ Hov.out (fun W9 hs => ⟨⟨hs.keep (by omega) hS4.1, hs.keep (by omega) hS4.2.1, hs.below _ _ hge hS4.2.2⟩, fun hS9 => ?_⟩)
          (intro K hK; go_simp; refine hK _ ?_; clear hK K)
          have hX9 := hs.blk
          clear hs
          (refine hK_take 12 (.int .i64 c) rfl (by kernel_rfl) (by kernel_rfl) (by kernel_rfl) (fun _ _ _ h => h) rfl (fun W _ => by go_simp) hS9 ?_; (intro K hK; go_simp; refine hK _ ?_; clear hK K))
          refine wpAnyH_done (by kernel_rfl) ?_ _
          exact ⟨gx, rfl, hS9.1, hS9.2.1, hS9.2.2, hX9⟩
        · skip
          go_simp
          have hal5 : Below W2.heap.size W2 (W2.alloc (.cells (mc zeroM) 28)) := (Below.refl _ _).alloc (Nat.le_refl _) _
          have hge : w.heap.size ≤ W2.heap.size := hS2.2.2.size
          have hgM : w.heap.size < W2.heap.size := hS2.1.lt
          have hgJ : w.heap.size + 1 < W2.heap.size := hS2.2.1.lt
          have hS5 : (Blk (W2.alloc (.cells (mc zeroM) 28)) w.heap.size (mc M) 25 ∧ Blk (W2.alloc (.cells (mc zeroM) 28)) (w.heap.size + 1) (mc J) 25 ∧ Below w.heap.size w (W2.alloc (.cells (mc zeroM) 28))) := ⟨hS2.1.keptAll hal5, hS2.2.1.keptAll hal5, below_step hS2.2.2 hal5⟩
          have hX5 : Blk (W2.alloc (.cells (mc zeroM) 28)) W2.heap.size (mc zeroM) 28 := Blk.new _ _ _
          refine hK.out _ _ hS5 (fun hT5 => ?_)
          clear hK K hal5 hT5
          generalize (W2.alloc (.cells (mc zeroM) 28)) = W5 at *
          generalize W2.heap.size = gx at *
          refine wpAnyH_ready (rs := [6]) (by kernel_rfl) (by simp) ?_
          refine AllReadyH.cons rfl (fun K hK => ?_) AllReadyH.nil
          · go_simp
            refine (HS.out W5).mono ?_
            rintro e W6 ⟨rfl, hc6⟩
            have hS6 : (Blk W6 w.heap.size (mc M) 25 ∧ Blk W6 (w.heap.size + 1) (mc J) 25 ∧ Below w.heap.size w W6) := ⟨hS5.1.keptAll hc6, hS5.2.1.keptAll hc6, below_step hS5.2.2 hc6⟩
            have hX6 := hX5.keptAll hc6
            go_simp
            refine hK.out _ _ hS6 (fun hT6 => ?_)
            clear hK K hc6 hT6
            (refine hK_take 7 (Value.tuple #[.agg (mc R), .int .i64 c]) rfl (by kernel_rfl) (by kernel_rfl) (by kernel_rfl) (fun _ _ _ h => h) rfl (fun W _ => by go_simp) hS6 ?_; (intro K hK; go_simp; refine hK _ ?_; clear hK K))
            (refine hK_take 8 (.agg (mc R)) rfl (by kernel_rfl) (by kernel_rfl) (by kernel_rfl) (fun _ _ _ h => h) rfl (fun W _ => by go_simp) hS6 ?_; (intro K hK; go_simp; refine hK _ ?_; clear hK K))
            (refine hK_take 9 (.int .i64 c) rfl (by kernel_rfl) (by kernel_rfl) (by kernel_rfl) (fun _ _ _ h => h) rfl (fun W _ => by go_simp) hS6 ?_; (intro K hK; go_simp; refine hK _ ?_; clear hK K))
            have hltM := hS6.1.lt
            have hltJ := hS6.2.1.lt
            refine hK_store 11 rfl (by kernel_rfl) rfl 28 _ _ rfl gx 0 (mc R) rfl rfl _ _ hX6 (by rw [HR.out, Hzs.out]; omega) (by rw [HR.out]; exact size_mach) (mc_one _) _ Hov.out (fun W9 hs => ⟨⟨hs.keep (by omega) hS6.1, hs.keep (by omega) hS6.2.1, hs.below _ _ hge hS6.2.2⟩, fun hS9 => ?_⟩)
            (intro K hK; go_simp; refine hK _ ?_; clear hK K)
            have hX9 := hs.blk
            clear hs
            (refine hK_take 12 (.int .i64 c) rfl (by kernel_rfl) (by kernel_rfl) (by kernel_rfl) (fun _ _ _ h => h) rfl (fun W _ => by go_simp) hS9 ?_; (intro K hK; go_simp; refine hK _ ?_; clear hK K))
            refine wpAnyH_done (by kernel_rfl) ?_ _
            exact ⟨gx, rfl, hS9.1, hS9.2.1, hS9.2.2, hX9⟩
      · skip
        go_simp
        have hal7 : Below W1.heap.size W1 (W1.alloc (.cells (mc zeroM) 28)) := (Below.refl _ _).alloc (Nat.le_refl _) _
        have hge : w.heap.size ≤ W1.heap.size := hS1.2.2.size
        have hgM : w.heap.size < W1.heap.size := hS1.1.lt
        have hgJ : w.heap.size + 1 < W1.heap.size := hS1.2.1.lt
        have hS7 : (Blk (W1.alloc (.cells (mc zeroM) 28)) w.heap.size (mc M) 25 ∧ Blk (W1.alloc (.cells (mc zeroM) 28)) (w.heap.size + 1) (mc J) 25 ∧ Below w.heap.size w (W1.alloc (.cells (mc zeroM) 28))) := ⟨hS1.1.keptAll hal7, hS1.2.1.keptAll hal7, below_step hS1.2.2 hal7⟩
        have hX7 : Blk (W1.alloc (.cells (mc zeroM) 28)) W1.heap.size (mc zeroM) 28 := Blk.new _ _ _
        refine hK.out _ _ hS7 (fun hT7 => ?_)
        clear hK K hal7 hT7
        generalize (W1.alloc (.cells (mc zeroM) 28)) = W7 at *
        generalize W1.heap.size = gx at *
        refine wpAnyH_ready (rs := [4]) (by kernel_rfl) (by simp) ?_
        refine AllReadyH.cons rfl (fun K hK => ?_) AllReadyH.nil
        · go_simp
          refine (HtJ.out W7).mono ?_
          rintro e W8 ⟨rfl, hc8⟩
          have hS8 : (Blk W8 w.heap.size (mc M) 25 ∧ Blk W8 (w.heap.size + 1) (mc J) 25 ∧ Below w.heap.size w W8) := ⟨hS7.1.keptAll hc8, hS7.2.1.keptAll hc8, below_step hS7.2.2 hc8⟩
          have hX8 := hX7.keptAll hc8
          go_simp
          refine hK.out _ _ hS8 (fun hT8 => ?_)
          clear hK K hc8 hT8
          refine wpAnyH_ready (rs := [6]) (by kernel_rfl) (by simp) ?_
          refine AllReadyH.cons rfl (fun K hK => ?_) AllReadyH.nil
          · go_simp
            refine (HS.out W8).mono ?_
            rintro e W9 ⟨rfl, hc9⟩
            have hS9 : (Blk W9 w.heap.size (mc M) 25 ∧ Blk W9 (w.heap.size + 1) (mc J) 25 ∧ Below w.heap.size w W9) := ⟨hS8.1.keptAll hc9, hS8.2.1.keptAll hc9, below_step hS8.2.2 hc9⟩
            have hX9 := hX8.keptAll hc9
            go_simp
            refine hK.out _ _ hS9 (fun hT9 => ?_)
            clear hK K hc9 hT9
            (refine hK_take 7 (Value.tuple #[.agg (mc R), .int .i64 c]) rfl (by kernel_rfl) (by kernel_rfl) (by kernel_rfl) (fun _ _ _ h => h) rfl (fun W _ => by go_simp) hS9 ?_; (intro K hK; go_simp; refine hK _ ?_; clear hK K))
            (refine hK_take 8 (.agg (mc R)) rfl (by kernel_rfl) (by kernel_rfl) (by kernel_rfl) (fun _ _ _ h => h) rfl (fun W _ => by go_simp) hS9 ?_; (intro K hK; go_simp; refine hK _ ?_; clear hK K))
            (refine hK_take 9 (.int .i64 c) rfl (by kernel_rfl) (by kernel_rfl) (by kernel_rfl) (fun _ _ _ h => h) rfl (fun W _ => by go_simp) hS9 ?_; (intro K hK; go_simp; refine hK _ ?_; clear hK K))
            have hltM := hS9.1.lt
            have hltJ := hS9.2.1.lt
            refine hK_store 11 rfl (by kernel_rfl) rfl 28 _ _ rfl gx 0 (mc R) rfl rfl _ _ hX9 (by rw [HR.out, Hzs.out]; omega) (by rw [HR.out]; exact size_mach) (mc_one _) _ Hov.out (fun W9 hs => ⟨⟨hs.keep (by omega) hS9.1, hs.keep (by omega) hS9.2.1, hs.below _ _ hge hS9.2.2⟩, fun hS9 => ?_⟩)
            (intro K hK; go_simp; refine hK _ ?_; clear hK K)
            have hX9 := hs.blk
            clear hs
            (refine hK_take 12 (.int .i64 c) rfl (by kernel_rfl) (by kernel_rfl) (by kernel_rfl) (fun _ _ _ h => h) rfl (fun W _ => by go_simp) hS9 ?_; (intro K hK; go_simp; refine hK _ ?_; clear hK K))
            refine wpAnyH_done (by kernel_rfl) ?_ _
            exact ⟨gx, rfl, hS9.1, hS9.2.1, hS9.2.2, hX9⟩
    · skip
      go_simp
      have hal10 : Below wd.heap.size wd (wd.alloc (.cells (mc zeroM) 28)) := (Below.refl _ _).alloc (Nat.le_refl _) _
      have hge : w.heap.size ≤ wd.heap.size := hS0.2.2.size
      have hgM : w.heap.size < wd.heap.size := hS0.1.lt
      have hgJ : w.heap.size + 1 < wd.heap.size := hS0.2.1.lt
      have hS10 : (Blk (wd.alloc (.cells (mc zeroM) 28)) w.heap.size (mc M) 25 ∧ Blk (wd.alloc (.cells (mc zeroM) 28)) (w.heap.size + 1) (mc J) 25 ∧ Below w.heap.size w (wd.alloc (.cells (mc zeroM) 28))) := ⟨hS0.1.keptAll hal10, hS0.2.1.keptAll hal10, below_step hS0.2.2 hal10⟩
      have hX10 : Blk (wd.alloc (.cells (mc zeroM) 28)) wd.heap.size (mc zeroM) 28 := Blk.new _ _ _
      refine hK.out _ _ hS10 (fun hT10 => ?_)
      clear hK K hal10 hT10
      generalize (wd.alloc (.cells (mc zeroM) 28)) = W10 at *
      generalize wd.heap.size = gx at *
      refine wpAnyH_ready (rs := [1]) (by kernel_rfl) (by simp) ?_
      refine AllReadyH.cons rfl (fun K hK => ?_) AllReadyH.nil
      · go_simp
        refine (HtM.out W10).mono ?_
        rintro e W11 ⟨rfl, hc11⟩
        have hS11 : (Blk W11 w.heap.size (mc M) 25 ∧ Blk W11 (w.heap.size + 1) (mc J) 25 ∧ Below w.heap.size w W11) := ⟨hS10.1.keptAll hc11, hS10.2.1.keptAll hc11, below_step hS10.2.2 hc11⟩
        have hX11 := hX10.keptAll hc11
        go_simp
        refine hK.out _ _ hS11 (fun hT11 => ?_)
        clear hK K hc11 hT11
        refine wpAnyH_ready (rs := [4]) (by kernel_rfl) (by simp) ?_
        refine AllReadyH.cons rfl (fun K hK => ?_) AllReadyH.nil
        · go_simp
          refine (HtJ.out W11).mono ?_
          rintro e W12 ⟨rfl, hc12⟩
          have hS12 : (Blk W12 w.heap.size (mc M) 25 ∧ Blk W12 (w.heap.size + 1) (mc J) 25 ∧ Below w.heap.size w W12) := ⟨hS11.1.keptAll hc12, hS11.2.1.keptAll hc12, below_step hS11.2.2 hc12⟩
          have hX12 := hX11.keptAll hc12
          go_simp
          refine hK.out _ _ hS12 (fun hT12 => ?_)
          clear hK K hc12 hT12
          refine wpAnyH_ready (rs := [6]) (by kernel_rfl) (by simp) ?_
          refine AllReadyH.cons rfl (fun K hK => ?_) AllReadyH.nil
          · go_simp
            refine (HS.out W12).mono ?_
            rintro e W13 ⟨rfl, hc13⟩
            have hS13 : (Blk W13 w.heap.size (mc M) 25 ∧ Blk W13 (w.heap.size + 1) (mc J) 25 ∧ Below w.heap.size w W13) := ⟨hS12.1.keptAll hc13, hS12.2.1.keptAll hc13, below_step hS12.2.2 hc13⟩
            have hX13 := hX12.keptAll hc13
            go_simp
            refine hK.out _ _ hS13 (fun hT13 => ?_)
            clear hK K hc13 hT13
            (refine hK_take 7 (Value.tuple #[.agg (mc R), .int .i64 c]) rfl (by kernel_rfl) (by kernel_rfl) (by kernel_rfl) (fun _ _ _ h => h) rfl (fun W _ => by go_simp) hS13 ?_; (intro K hK; go_simp; refine hK _ ?_; clear hK K))
            (refine hK_take 8 (.agg (mc R)) rfl (by kernel_rfl) (by kernel_rfl) (by kernel_rfl) (fun _ _ _ h => h) rfl (fun W _ => by go_simp) hS13 ?_; (intro K hK; go_simp; refine hK _ ?_; clear hK K))
            (refine hK_take 9 (.int .i64 c) rfl (by kernel_rfl) (by kernel_rfl) (by kernel_rfl) (fun _ _ _ h => h) rfl (fun W _ => by go_simp) hS13 ?_; (intro K hK; go_simp; refine hK _ ?_; clear hK K))
            have hltM := hS13.1.lt
            have hltJ := hS13.2.1.lt
            refine hK_store 11 rfl (by kernel_rfl) rfl 28 _ _ rfl gx 0 (mc R) rfl rfl _ _ hX13 (by rw [HR.out, Hzs.out]; omega) (by rw [HR.out]; exact size_mach) (mc_one _) _ Hov.out (fun W9 hs => ⟨⟨hs.keep (by omega) hS13.1, hs.keep (by omega) hS13.2.1, hs.below _ _ hge hS13.2.2⟩, fun hS9 => ?_⟩)
            (intro K hK; go_simp; refine hK _ ?_; clear hK K)
            have hX9 := hs.blk
            clear hs
            (refine hK_take 12 (.int .i64 c) rfl (by kernel_rfl) (by kernel_rfl) (by kernel_rfl) (fun _ _ _ h => h) rfl (fun W _ => by go_simp) hS9 ?_; (intro K hK; go_simp; refine hK _ ?_; clear hK K))
            refine wpAnyH_done (by kernel_rfl) ?_ _
            exact ⟨gx, rfl, hS9.1, hS9.2.1, hS9.2.2, hX9⟩
  case rest =>
    intro e a W hT
    cases e with
    | normal =>
      obtain ⟨g, rfl, hM1, hJ1, hb1, hG1⟩ := hT
      clear hM0 hJ0 hb0
      go_wp2_with fail
      refine Code.wp_mono (Q := (fun e a W => match e with | .normal => ∃ g2, a = { tmps := #[Value.agg (mc M), Value.int .i64 k1, Value.agg (mc J), Value.int .i64 k3, Value.pointer (some ⟨w.heap.size, 0, none⟩), undef, Value.pointer (some ⟨w.heap.size + 1, 0, none⟩), undef, Value.bool false, Value.pointer (some ⟨g, 0, none⟩), Value.int .i64 c, Value.pointer (some ⟨g2, 0, none⟩), Value.int .i64 c, Value.tuple #[.agg (mc R), .int .i64 c], Value.agg (mc M), Value.agg (mc M), Value.int .i64 k1, Value.agg (mc J), Value.agg (mc J), Value.int .i64 k3, Value.tuple #[.agg (mc R), .int .i64 c], Value.agg (mc R), Value.int .i64 c, Value.tuple #[.agg (mc R), .int .i64 c], Value.agg (mc M), Value.agg (mc M), Value.int .i64 k1, Value.agg (mc J), Value.agg (mc J), Value.int .i64 k3, Value.tuple #[.agg (mc R), .int .i64 c], Value.agg (mc R), Value.int .i64 c, undef, undef, undef, undef, undef, undef, undef, undef, undef], defers := [] } ∧ Blk W w.heap.size (mc M) 25 ∧ Blk W (w.heap.size + 1) (mc J) 25 ∧ Below w.heap.size w W ∧ Blk W g (mc R) 28 ∧ Blk W g2 (mc R) 28 | _ => False)) ?rest2 ?region2
      case region2 =>
        refine wp_region_held_drew (S := fun W => (Blk W w.heap.size (mc M) 25 ∧ Blk W (w.heap.size + 1) (mc J) 25 ∧ Below w.heap.size w W ∧ Blk W g (mc R) 28)) (by kernel_rfl) ⟨hM1.drew, hJ1.drew, below_drew' hb1, hG1.drew⟩ (fun hS0 => ?_)
        clear hM1 hJ1 hb1 hG1
        generalize World.drew _ = wd at *
        (refine hK_load 0 rfl (by kernel_rfl) (by kernel_rfl) (by kernel_rfl) 25 _ rfl w.heap.size 0 rfl (mc M) _ (fun W hW => hW.1) 98 F2.out _ Try.underlying25 rfl size_lmach _ F1.out (fun _ _ _ h => h) rfl hS0 ?_; (intro K hK; go_simp; refine hK _ ?_; clear hK K))
        (refine hK_take 2 (.int .i64 k1) rfl (by kernel_rfl) (by kernel_rfl) (by kernel_rfl) (fun _ _ _ h => h) rfl (fun W _ => by go_simp) hS0 ?_; (intro K hK; go_simp; refine hK _ ?_; clear hK K))
        (refine hK_load 3 rfl (by kernel_rfl) (by kernel_rfl) (by kernel_rfl) 25 _ rfl (w.heap.size + 1) 0 rfl (mc J) _ (fun W hW => hW.2.1) 98 G2.out _ Try.underlying25 rfl size_lmach _ G1.out (fun _ _ _ h => h) rfl hS0 ?_; (intro K hK; go_simp; refine hK _ ?_; clear hK K))
        (refine hK_take 5 (.int .i64 k3) rfl (by kernel_rfl) (by kernel_rfl) (by kernel_rfl) (fun _ _ _ h => h) rfl (fun W _ => by go_simp) hS0 ?_; (intro K hK; go_simp; refine hK _ ?_; clear hK K))
        refine wpAnyH_ready (rs := [1, 10]) (by kernel_rfl) (by simp) ?_
        refine AllReadyH.cons rfl (fun K hK => ?_) (AllReadyH.cons rfl (fun K hK => ?_) AllReadyH.nil)
        · go_simp
          refine (HtM.out wd).mono ?_
          rintro e W1 ⟨rfl, hc1⟩
          have hS1 : (Blk W1 w.heap.size (mc M) 25 ∧ Blk W1 (w.heap.size + 1) (mc J) 25 ∧ Below w.heap.size w W1 ∧ Blk W1 g (mc R) 28) := ⟨hS0.1.keptAll hc1, hS0.2.1.keptAll hc1, below_step hS0.2.2.1 hc1, hS0.2.2.2.keptAll hc1⟩
          go_simp
          refine hK.out _ _ hS1 (fun hT1 => ?_)
          clear hK K hc1 hT1
          refine wpAnyH_ready (rs := [4, 10]) (by kernel_rfl) (by simp) ?_
          refine AllReadyH.cons rfl (fun K hK => ?_) (AllReadyH.cons rfl (fun K hK => ?_) AllReadyH.nil)
          · go_simp
            refine (HtJ.out W1).mono ?_
            rintro e W2 ⟨rfl, hc2⟩
            have hS2 : (Blk W2 w.heap.size (mc M) 25 ∧ Blk W2 (w.heap.size + 1) (mc J) 25 ∧ Below w.heap.size w W2 ∧ Blk W2 g (mc R) 28) := ⟨hS1.1.keptAll hc2, hS1.2.1.keptAll hc2, below_step hS1.2.2.1 hc2, hS1.2.2.2.keptAll hc2⟩
            go_simp
            refine hK.out _ _ hS2 (fun hT2 => ?_)
            clear hK K hc2 hT2
            refine wpAnyH_ready (rs := [6, 10]) (by kernel_rfl) (by simp) ?_
            refine AllReadyH.cons rfl (fun K hK => ?_) (AllReadyH.cons rfl (fun K hK => ?_) AllReadyH.nil)
            · go_simp
              refine (HI.out W2).mono ?_
              rintro e W3 ⟨rfl, hc3⟩
              have hS3 : (Blk W3 w.heap.size (mc M) 25 ∧ Blk W3 (w.heap.size + 1) (mc J) 25 ∧ Below w.heap.size w W3 ∧ Blk W3 g (mc R) 28) := ⟨hS2.1.keptAll hc3, hS2.2.1.keptAll hc3, below_step hS2.2.2.1 hc3, hS2.2.2.2.keptAll hc3⟩
              go_simp
              refine hK.out _ _ hS3 (fun hT3 => ?_)
              clear hK K hc3 hT3
              (refine hK_take 7 (Value.tuple #[.agg (mc R), .int .i64 c]) rfl (by kernel_rfl) (by kernel_rfl) (by kernel_rfl) (fun _ _ _ h => h) rfl (fun W _ => by go_simp) hS3 ?_; (intro K hK; go_simp; refine hK _ ?_; clear hK K))
              (refine hK_take 8 (.agg (mc R)) rfl (by kernel_rfl) (by kernel_rfl) (by kernel_rfl) (fun _ _ _ h => h) rfl (fun W _ => by go_simp) hS3 ?_; (intro K hK; go_simp; refine hK _ ?_; clear hK K))
              (refine hK_take 9 (.int .i64 c) rfl (by kernel_rfl) (by kernel_rfl) (by kernel_rfl) (fun _ _ _ h => h) rfl (fun W _ => by go_simp) hS3 ?_; (intro K hK; go_simp; refine hK _ ?_; clear hK K))
              refine wpAnyH_ready (rs := [10]) (by kernel_rfl) (by simp) ?_
              refine AllReadyH.cons rfl (fun K hK => ?_) AllReadyH.nil
              go_simp
              have hal4 : Below W3.heap.size W3 (W3.alloc (.cells (mc zeroM) 28)) := (Below.refl _ _).alloc (Nat.le_refl _) _
              have hge : w.heap.size ≤ W3.heap.size := hS3.2.2.1.size
              have hgM : w.heap.size < W3.heap.size := hS3.1.lt
              have hgJ : w.heap.size + 1 < W3.heap.size := hS3.2.1.lt
              have hgg : g < W3.heap.size := hS3.2.2.2.lt
              have hS4 : (Blk (W3.alloc (.cells (mc zeroM) 28)) w.heap.size (mc M) 25 ∧ Blk (W3.alloc (.cells (mc zeroM) 28)) (w.heap.size + 1) (mc J) 25 ∧ Below w.heap.size w (W3.alloc (.cells (mc zeroM) 28)) ∧ Blk (W3.alloc (.cells (mc zeroM) 28)) g (mc R) 28) := ⟨hS3.1.keptAll hal4, hS3.2.1.keptAll hal4, below_step hS3.2.2.1 hal4, hS3.2.2.2.keptAll hal4⟩
              have hX4 : Blk (W3.alloc (.cells (mc zeroM) 28)) W3.heap.size (mc zeroM) 28 := Blk.new _ _ _
              refine hK.out _ _ hS4 (fun hT4 => ?_)
              clear hK K hal4 hT4
              generalize (W3.alloc (.cells (mc zeroM) 28)) = W4 at *
              generalize W3.heap.size = gx at *
              have hltM := hS4.1.lt
              have hltJ := hS4.2.1.lt
              refine hK_store 11 rfl (by kernel_rfl) rfl 28 _ _ rfl gx 0 (mc R) rfl rfl _ _ hX4 (by rw [HR.out, Hzs.out]; omega) (by rw [HR.out]; exact size_mach) (mc_one _) _ Hov.out (fun W9 hs => ⟨⟨hs.keep (by omega) hS4.1, hs.keep (by omega) hS4.2.1, hs.below _ _ hge hS4.2.2.1, hs.keep (by omega) hS4.2.2.2⟩, fun hS9 => ?_⟩)
              (intro K hK; go_simp; refine hK _ ?_; clear hK K)
              have hX9 := hs.blk
              clear hs
              (refine hK_take 12 (.int .i64 c) rfl (by kernel_rfl) (by kernel_rfl) (by kernel_rfl) (fun _ _ _ h => h) rfl (fun W _ => by go_simp) hS9 ?_; (intro K hK; go_simp; refine hK _ ?_; clear hK K))
              refine wpAnyH_done (by kernel_rfl) ?_ _
              exact ⟨gx, rfl, hS9.1, hS9.2.1, hS9.2.2.1, hS9.2.2.2, hX9⟩
            · skip
              go_simp
              have hal5 : Below W2.heap.size W2 (W2.alloc (.cells (mc zeroM) 28)) := (Below.refl _ _).alloc (Nat.le_refl _) _
              have hge : w.heap.size ≤ W2.heap.size := hS2.2.2.1.size
              have hgM : w.heap.size < W2.heap.size := hS2.1.lt
              have hgJ : w.heap.size + 1 < W2.heap.size := hS2.2.1.lt
              have hgg : g < W2.heap.size := hS2.2.2.2.lt
              have hS5 : (Blk (W2.alloc (.cells (mc zeroM) 28)) w.heap.size (mc M) 25 ∧ Blk (W2.alloc (.cells (mc zeroM) 28)) (w.heap.size + 1) (mc J) 25 ∧ Below w.heap.size w (W2.alloc (.cells (mc zeroM) 28)) ∧ Blk (W2.alloc (.cells (mc zeroM) 28)) g (mc R) 28) := ⟨hS2.1.keptAll hal5, hS2.2.1.keptAll hal5, below_step hS2.2.2.1 hal5, hS2.2.2.2.keptAll hal5⟩
              have hX5 : Blk (W2.alloc (.cells (mc zeroM) 28)) W2.heap.size (mc zeroM) 28 := Blk.new _ _ _
              refine hK.out _ _ hS5 (fun hT5 => ?_)
              clear hK K hal5 hT5
              generalize (W2.alloc (.cells (mc zeroM) 28)) = W5 at *
              generalize W2.heap.size = gx at *
              refine wpAnyH_ready (rs := [6]) (by kernel_rfl) (by simp) ?_
              refine AllReadyH.cons rfl (fun K hK => ?_) AllReadyH.nil
              · go_simp
                refine (HI.out W5).mono ?_
                rintro e W6 ⟨rfl, hc6⟩
                have hS6 : (Blk W6 w.heap.size (mc M) 25 ∧ Blk W6 (w.heap.size + 1) (mc J) 25 ∧ Below w.heap.size w W6 ∧ Blk W6 g (mc R) 28) := ⟨hS5.1.keptAll hc6, hS5.2.1.keptAll hc6, below_step hS5.2.2.1 hc6, hS5.2.2.2.keptAll hc6⟩
                have hX6 := hX5.keptAll hc6
                go_simp
                refine hK.out _ _ hS6 (fun hT6 => ?_)
                clear hK K hc6 hT6
                (refine hK_take 7 (Value.tuple #[.agg (mc R), .int .i64 c]) rfl (by kernel_rfl) (by kernel_rfl) (by kernel_rfl) (fun _ _ _ h => h) rfl (fun W _ => by go_simp) hS6 ?_; (intro K hK; go_simp; refine hK _ ?_; clear hK K))
                (refine hK_take 8 (.agg (mc R)) rfl (by kernel_rfl) (by kernel_rfl) (by kernel_rfl) (fun _ _ _ h => h) rfl (fun W _ => by go_simp) hS6 ?_; (intro K hK; go_simp; refine hK _ ?_; clear hK K))
                (refine hK_take 9 (.int .i64 c) rfl (by kernel_rfl) (by kernel_rfl) (by kernel_rfl) (fun _ _ _ h => h) rfl (fun W _ => by go_simp) hS6 ?_; (intro K hK; go_simp; refine hK _ ?_; clear hK K))
                have hltM := hS6.1.lt
                have hltJ := hS6.2.1.lt
                refine hK_store 11 rfl (by kernel_rfl) rfl 28 _ _ rfl gx 0 (mc R) rfl rfl _ _ hX6 (by rw [HR.out, Hzs.out]; omega) (by rw [HR.out]; exact size_mach) (mc_one _) _ Hov.out (fun W9 hs => ⟨⟨hs.keep (by omega) hS6.1, hs.keep (by omega) hS6.2.1, hs.below _ _ hge hS6.2.2.1, hs.keep (by omega) hS6.2.2.2⟩, fun hS9 => ?_⟩)
                (intro K hK; go_simp; refine hK _ ?_; clear hK K)
                have hX9 := hs.blk
                clear hs
                (refine hK_take 12 (.int .i64 c) rfl (by kernel_rfl) (by kernel_rfl) (by kernel_rfl) (fun _ _ _ h => h) rfl (fun W _ => by go_simp) hS9 ?_; (intro K hK; go_simp; refine hK _ ?_; clear hK K))
                refine wpAnyH_done (by kernel_rfl) ?_ _
                exact ⟨gx, rfl, hS9.1, hS9.2.1, hS9.2.2.1, hS9.2.2.2, hX9⟩
          · skip
            go_simp
            have hal7 : Below W1.heap.size W1 (W1.alloc (.cells (mc zeroM) 28)) := (Below.refl _ _).alloc (Nat.le_refl _) _
            have hge : w.heap.size ≤ W1.heap.size := hS1.2.2.1.size
            have hgM : w.heap.size < W1.heap.size := hS1.1.lt
            have hgJ : w.heap.size + 1 < W1.heap.size := hS1.2.1.lt
            have hgg : g < W1.heap.size := hS1.2.2.2.lt
            have hS7 : (Blk (W1.alloc (.cells (mc zeroM) 28)) w.heap.size (mc M) 25 ∧ Blk (W1.alloc (.cells (mc zeroM) 28)) (w.heap.size + 1) (mc J) 25 ∧ Below w.heap.size w (W1.alloc (.cells (mc zeroM) 28)) ∧ Blk (W1.alloc (.cells (mc zeroM) 28)) g (mc R) 28) := ⟨hS1.1.keptAll hal7, hS1.2.1.keptAll hal7, below_step hS1.2.2.1 hal7, hS1.2.2.2.keptAll hal7⟩
            have hX7 : Blk (W1.alloc (.cells (mc zeroM) 28)) W1.heap.size (mc zeroM) 28 := Blk.new _ _ _
            refine hK.out _ _ hS7 (fun hT7 => ?_)
            clear hK K hal7 hT7
            generalize (W1.alloc (.cells (mc zeroM) 28)) = W7 at *
            generalize W1.heap.size = gx at *
            refine wpAnyH_ready (rs := [4]) (by kernel_rfl) (by simp) ?_
            refine AllReadyH.cons rfl (fun K hK => ?_) AllReadyH.nil
            · go_simp
              refine (HtJ.out W7).mono ?_
              rintro e W8 ⟨rfl, hc8⟩
              have hS8 : (Blk W8 w.heap.size (mc M) 25 ∧ Blk W8 (w.heap.size + 1) (mc J) 25 ∧ Below w.heap.size w W8 ∧ Blk W8 g (mc R) 28) := ⟨hS7.1.keptAll hc8, hS7.2.1.keptAll hc8, below_step hS7.2.2.1 hc8, hS7.2.2.2.keptAll hc8⟩
              have hX8 := hX7.keptAll hc8
              go_simp
              refine hK.out _ _ hS8 (fun hT8 => ?_)
              clear hK K hc8 hT8
              refine wpAnyH_ready (rs := [6]) (by kernel_rfl) (by simp) ?_
              refine AllReadyH.cons rfl (fun K hK => ?_) AllReadyH.nil
              · go_simp
                refine (HI.out W8).mono ?_
                rintro e W9 ⟨rfl, hc9⟩
                have hS9 : (Blk W9 w.heap.size (mc M) 25 ∧ Blk W9 (w.heap.size + 1) (mc J) 25 ∧ Below w.heap.size w W9 ∧ Blk W9 g (mc R) 28) := ⟨hS8.1.keptAll hc9, hS8.2.1.keptAll hc9, below_step hS8.2.2.1 hc9, hS8.2.2.2.keptAll hc9⟩
                have hX9 := hX8.keptAll hc9
                go_simp
                refine hK.out _ _ hS9 (fun hT9 => ?_)
                clear hK K hc9 hT9
                (refine hK_take 7 (Value.tuple #[.agg (mc R), .int .i64 c]) rfl (by kernel_rfl) (by kernel_rfl) (by kernel_rfl) (fun _ _ _ h => h) rfl (fun W _ => by go_simp) hS9 ?_; (intro K hK; go_simp; refine hK _ ?_; clear hK K))
                (refine hK_take 8 (.agg (mc R)) rfl (by kernel_rfl) (by kernel_rfl) (by kernel_rfl) (fun _ _ _ h => h) rfl (fun W _ => by go_simp) hS9 ?_; (intro K hK; go_simp; refine hK _ ?_; clear hK K))
                (refine hK_take 9 (.int .i64 c) rfl (by kernel_rfl) (by kernel_rfl) (by kernel_rfl) (fun _ _ _ h => h) rfl (fun W _ => by go_simp) hS9 ?_; (intro K hK; go_simp; refine hK _ ?_; clear hK K))
                have hltM := hS9.1.lt
                have hltJ := hS9.2.1.lt
                refine hK_store 11 rfl (by kernel_rfl) rfl 28 _ _ rfl gx 0 (mc R) rfl rfl _ _ hX9 (by rw [HR.out, Hzs.out]; omega) (by rw [HR.out]; exact size_mach) (mc_one _) _ Hov.out (fun W9 hs => ⟨⟨hs.keep (by omega) hS9.1, hs.keep (by omega) hS9.2.1, hs.below _ _ hge hS9.2.2.1, hs.keep (by omega) hS9.2.2.2⟩, fun hS9 => ?_⟩)
                (intro K hK; go_simp; refine hK _ ?_; clear hK K)
                have hX9 := hs.blk
                clear hs
                (refine hK_take 12 (.int .i64 c) rfl (by kernel_rfl) (by kernel_rfl) (by kernel_rfl) (fun _ _ _ h => h) rfl (fun W _ => by go_simp) hS9 ?_; (intro K hK; go_simp; refine hK _ ?_; clear hK K))
                refine wpAnyH_done (by kernel_rfl) ?_ _
                exact ⟨gx, rfl, hS9.1, hS9.2.1, hS9.2.2.1, hS9.2.2.2, hX9⟩
        · skip
          go_simp
          have hal10 : Below wd.heap.size wd (wd.alloc (.cells (mc zeroM) 28)) := (Below.refl _ _).alloc (Nat.le_refl _) _
          have hge : w.heap.size ≤ wd.heap.size := hS0.2.2.1.size
          have hgM : w.heap.size < wd.heap.size := hS0.1.lt
          have hgJ : w.heap.size + 1 < wd.heap.size := hS0.2.1.lt
          have hgg : g < wd.heap.size := hS0.2.2.2.lt
          have hS10 : (Blk (wd.alloc (.cells (mc zeroM) 28)) w.heap.size (mc M) 25 ∧ Blk (wd.alloc (.cells (mc zeroM) 28)) (w.heap.size + 1) (mc J) 25 ∧ Below w.heap.size w (wd.alloc (.cells (mc zeroM) 28)) ∧ Blk (wd.alloc (.cells (mc zeroM) 28)) g (mc R) 28) := ⟨hS0.1.keptAll hal10, hS0.2.1.keptAll hal10, below_step hS0.2.2.1 hal10, hS0.2.2.2.keptAll hal10⟩
          have hX10 : Blk (wd.alloc (.cells (mc zeroM) 28)) wd.heap.size (mc zeroM) 28 := Blk.new _ _ _
          refine hK.out _ _ hS10 (fun hT10 => ?_)
          clear hK K hal10 hT10
          generalize (wd.alloc (.cells (mc zeroM) 28)) = W10 at *
          generalize wd.heap.size = gx at *
          refine wpAnyH_ready (rs := [1]) (by kernel_rfl) (by simp) ?_
          refine AllReadyH.cons rfl (fun K hK => ?_) AllReadyH.nil
          · go_simp
            refine (HtM.out W10).mono ?_
            rintro e W11 ⟨rfl, hc11⟩
            have hS11 : (Blk W11 w.heap.size (mc M) 25 ∧ Blk W11 (w.heap.size + 1) (mc J) 25 ∧ Below w.heap.size w W11 ∧ Blk W11 g (mc R) 28) := ⟨hS10.1.keptAll hc11, hS10.2.1.keptAll hc11, below_step hS10.2.2.1 hc11, hS10.2.2.2.keptAll hc11⟩
            have hX11 := hX10.keptAll hc11
            go_simp
            refine hK.out _ _ hS11 (fun hT11 => ?_)
            clear hK K hc11 hT11
            refine wpAnyH_ready (rs := [4]) (by kernel_rfl) (by simp) ?_
            refine AllReadyH.cons rfl (fun K hK => ?_) AllReadyH.nil
            · go_simp
              refine (HtJ.out W11).mono ?_
              rintro e W12 ⟨rfl, hc12⟩
              have hS12 : (Blk W12 w.heap.size (mc M) 25 ∧ Blk W12 (w.heap.size + 1) (mc J) 25 ∧ Below w.heap.size w W12 ∧ Blk W12 g (mc R) 28) := ⟨hS11.1.keptAll hc12, hS11.2.1.keptAll hc12, below_step hS11.2.2.1 hc12, hS11.2.2.2.keptAll hc12⟩
              have hX12 := hX11.keptAll hc12
              go_simp
              refine hK.out _ _ hS12 (fun hT12 => ?_)
              clear hK K hc12 hT12
              refine wpAnyH_ready (rs := [6]) (by kernel_rfl) (by simp) ?_
              refine AllReadyH.cons rfl (fun K hK => ?_) AllReadyH.nil
              · go_simp
                refine (HI.out W12).mono ?_
                rintro e W13 ⟨rfl, hc13⟩
                have hS13 : (Blk W13 w.heap.size (mc M) 25 ∧ Blk W13 (w.heap.size + 1) (mc J) 25 ∧ Below w.heap.size w W13 ∧ Blk W13 g (mc R) 28) := ⟨hS12.1.keptAll hc13, hS12.2.1.keptAll hc13, below_step hS12.2.2.1 hc13, hS12.2.2.2.keptAll hc13⟩
                have hX13 := hX12.keptAll hc13
                go_simp
                refine hK.out _ _ hS13 (fun hT13 => ?_)
                clear hK K hc13 hT13
                (refine hK_take 7 (Value.tuple #[.agg (mc R), .int .i64 c]) rfl (by kernel_rfl) (by kernel_rfl) (by kernel_rfl) (fun _ _ _ h => h) rfl (fun W _ => by go_simp) hS13 ?_; (intro K hK; go_simp; refine hK _ ?_; clear hK K))
                (refine hK_take 8 (.agg (mc R)) rfl (by kernel_rfl) (by kernel_rfl) (by kernel_rfl) (fun _ _ _ h => h) rfl (fun W _ => by go_simp) hS13 ?_; (intro K hK; go_simp; refine hK _ ?_; clear hK K))
                (refine hK_take 9 (.int .i64 c) rfl (by kernel_rfl) (by kernel_rfl) (by kernel_rfl) (fun _ _ _ h => h) rfl (fun W _ => by go_simp) hS13 ?_; (intro K hK; go_simp; refine hK _ ?_; clear hK K))
                have hltM := hS13.1.lt
                have hltJ := hS13.2.1.lt
                refine hK_store 11 rfl (by kernel_rfl) rfl 28 _ _ rfl gx 0 (mc R) rfl rfl _ _ hX13 (by rw [HR.out, Hzs.out]; omega) (by rw [HR.out]; exact size_mach) (mc_one _) _ Hov.out (fun W9 hs => ⟨⟨hs.keep (by omega) hS13.1, hs.keep (by omega) hS13.2.1, hs.below _ _ hge hS13.2.2.1, hs.keep (by omega) hS13.2.2.2⟩, fun hS9 => ?_⟩)
                (intro K hK; go_simp; refine hK _ ?_; clear hK K)
                have hX9 := hs.blk
                clear hs
                (refine hK_take 12 (.int .i64 c) rfl (by kernel_rfl) (by kernel_rfl) (by kernel_rfl) (fun _ _ _ h => h) rfl (fun W _ => by go_simp) hS9 ?_; (intro K hK; go_simp; refine hK _ ?_; clear hK K))
                refine wpAnyH_done (by kernel_rfl) ?_ _
                exact ⟨gx, rfl, hS9.1, hS9.2.1, hS9.2.2.1, hS9.2.2.2, hX9⟩

      case rest2 =>
        intro e a W hT
        cases e with
        | normal =>
          obtain ⟨g2, rfl, hM2, hJ2, hb2, hG2, hH2⟩ := hT
          clear hM1 hJ1 hb1 hG1
          go_wp2_with (first | ((with_reducible show wpList _ _ _ _ _ _); refine wpList_load_blk rfl 28 (.tmp 11) rfl g2 0 rfl _ _ hH2 98 (by rw [HR.out]; omega) _ Try.underlying28 rfl size_mach ?_; rw [R1.out]) | ((with_reducible show wpList _ _ _ _ _ _); refine wpList_load_blk rfl 28 (.tmp 9) rfl g 0 rfl _ _ hG2 98 (by rw [HR.out]; omega) _ Try.underlying28 rfl size_mach ?_; rw [R1.out]) | (go_at_call 20; refine (HE.out _).mono ?_; rintro e w5 ⟨rfl, hc5⟩; have hb5 := below_step hb2 hc5))
          go_ret
          exact ⟨rfl, hb5⟩
        | _ => exact hT.elim
    | _ => exact hT.elim
end Go.Proofs.Ytkkooafjpancoaa
