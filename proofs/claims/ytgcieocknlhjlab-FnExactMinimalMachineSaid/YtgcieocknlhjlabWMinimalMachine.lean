/- The statement on 'MinimalMachine', walked: equal, of its own memory, and again. Written by genmin.py. -/
import Derived.Test.YtgcieocknlhjlabMarks
import Derived.Test.YtgcieocknlhjlabConv
import Derived.Test.YtgcieocknlhjlabEqB
import Derived.Test.YtgcieocknlhjlabMinJ
import Derived.Test.YtgcieocknlhjlabMinP
namespace Go.Proofs.Ytgcieocknlhjlab
open Go.RowKit

set_option linter.unusedVariables false in
set_option maxRecDepth 100000 in
set_option maxHeartbeats 4000000 in
theorem lawMinimalMachine (M : Mach) (hok : M.Ok) (w : World) :
    Calls Try.prog 6 #[.agg (mc M)] w fun e w' => e = .returned (.bool true) ∧ Below w.heap.size w w' := by
  have hz := zero_mach
  have hRok := minR_ok hok
  have hlen := minN_len hok
  have hi := fun W => iMinimalMachine_calls M hok W
  have hs := fun W => sMinimalMachine_calls M hok W
  generalize minR M = R at *
  generalize minN M = ns at *
  generalize minC M = c at *
  have Hi := Lib.hid hi; have Hs := Lib.hid hs; clear hi hs
  have HR := Lib.hid (mc_size hRok)
  have HRok := Lib.hid hRok
  have Hlen := Lib.hid hlen
  have Hzs := Lib.hid (mc_size zeroM_ok)
  have Hov : Hid (over (mc zeroM) 0 (mc R) = mc R) := Lib.hid (over_all _ _ (by rw [HR.out, Hzs.out]))
  have R1 : Hid (cut (mc R) 0 98 = mc R) := Lib.hid (cut_all _ _ HR.out)
  obtain ⟨mr, hmr⟩ : ∃ m : Nat, 1 + ns.length = m := ⟨_, rfl⟩
  have hmr0 : ¬ ((mr : Int) < 0) := by omega
  have Hmr := Lib.hid hmr; clear hmr
  clear hRok hlen
  have F1 : Hid (cut (mc M) 0 98 = mc M) := Lib.hid (cut_all _ _ (mc_size hok)); have F2 : Hid (0 + 98 ≤ (mc M).size) := Lib.hid (by rw [mc_size hok]; omega)
  have hB : Blk (w.alloc (.cells (mc M) 25)) w.heap.size (mc M) 25 := Blk.new w _ _
  have hbw0 : Below w.heap.size w (w.alloc (.cells (mc M) 25)) := by (repeat (first | exact Below.refl _ _ | refine below_drew' ?_ | refine below_drewN' ?_ _ | refine below_alloc' ?_ _ | refine below_set' ?_ (by (try simp); (try omega)) _ | refine below_step ?_ (by assumption)))
  have hB_0 := hB; clear hB
  have hs0 : (w.alloc (.cells (mc M) 25)).heap.size = w.heap.size + 1 := by simp
  go_enter Try.func6, Try.ntmps6
  go_wp2_with (first | (with_reducible show wpList _ _ _ _ _ _; refine wpList_load_blk rfl 25 _ rfl w.heap.size 0 rfl (mc M) _ (by first | exact hB_1 | exact hB_0) 98 F2.out _ Try.underlying25 rfl size_lmach ?_; rw [F1.out]) | (go_at_call 9; refine (toMachine_calls M hok _).mono ?_; rintro e w1 ⟨rfl, hb1⟩; have hB_1 := hB_0.keptAll hb1))
  have hbw1 := below_step hbw0 hb1
  have hsz1 := hb1.size
  clear hB_0 hbw0  
  go_wp2_with (first | (with_reducible show wpList _ _ _ _ _ _; refine wpList_load_blk rfl 25 _ rfl w.heap.size 0 rfl (mc M) _ (by first | exact hB_3 | exact hB_2 | exact hB_1) 98 F2.out _ Try.underlying25 rfl size_lmach ?_; rw [F1.out]) | (go_at_call 18; refine (Hs.out _).mono ?_; rintro e w2 ⟨vs, rfl, g_vs, hb2⟩; have hB_2 := (hB_1.keptAll hb2).alloc (.cells (mc zeroM) 28); have hbw2 := below_alloc' (below_step hbw1 hb2) (.cells (mc zeroM) 28); have hX_2 : Blk (w2.alloc (.cells (mc zeroM) 28)) w2.heap.size (mc zeroM) 28 := Blk.new _ _ _; have lt_vs := Lib.hid (World.ownsRow.lt g_vs); have f_vs_2 := g_vs.below (Below.alloc (Below.refl _ _) (Nat.le_refl _) (.cells (mc zeroM) 28)); clear g_vs; have hlt2 := (hB_1.keptAll hb2).lt; have hsz2 := hb2.size; clear hB_1 hbw1  ) | (with_reducible show wpList _ _ _ _ _ _; refine wpList_store_row rfl 28 _ _ rfl w2.heap.size 0 (mc R) rfl rfl _ _ hX_2 (by rw [HR.out, Hzs.out]; omega) (by rw [HR.out]; exact size_mach) (mc_one _) _ Hov.out ?_; intro w3 hs3; have hB_3 := hs3.keep (by omega) hB_2; have hbw3 := hs3.below _ _ (by omega) hbw2; have hX_3 := hs3.blk; have hsz3 := hX_3.lt; have f_vs_3 := ownI_at f_vs_2 (fun j hj => hs3.other j (by have := lt_vs.out j hj; omega)); clear hs3 hB_2 hbw2 hX_2 f_vs_2 ))
  go_wp2_with (first | (with_reducible show wpList _ _ _ _ _ _; refine wpList_load_blk rfl 25 _ rfl w.heap.size 0 rfl (mc M) _ (by first | exact hB_4 | exact hB_3) 98 F2.out _ Try.underlying25 rfl size_lmach ?_; rw [F1.out]) | (go_at_call 9; refine (toMachine_calls M hok _).mono ?_; rintro e w4 ⟨rfl, hb4⟩; have hB_4 := hB_3.keptAll hb4))
  have hbw4 := below_step hbw3 hb4
  have hsz4 := hb4.size
  have f_vs_4 := f_vs_3.below hb4
  have hX_4 := hX_3.keptAll hb4
  clear hB_3 hbw3 f_vs_3 hX_3
  go_wp2_with (first | (with_reducible show wpList _ _ _ _ _ _; refine wpList_load_blk rfl 25 _ rfl w.heap.size 0 rfl (mc M) _ (by first | exact hB_6 | exact hB_5 | exact hB_4) 98 F2.out _ Try.underlying25 rfl size_lmach ?_; rw [F1.out]) | (go_at_call 19; refine (Hi.out _).mono ?_; rintro e w5 ⟨g1, rfl, g_g1, hb5⟩; have hB_5 := (hB_4.keptAll hb5).alloc (.cells (mc zeroM) 28); have hbw5 := below_alloc' (below_step hbw4 hb5) (.cells (mc zeroM) 28); have hY_5 : Blk (w5.alloc (.cells (mc zeroM) 28)) w5.heap.size (mc zeroM) 28 := Blk.new _ _ _; have lt_g1 := Lib.hid (World.ownsRow.lt g_g1); have f_g1_5 := g_g1.below (Below.alloc (Below.refl _ _) (Nat.le_refl _) (.cells (mc zeroM) 28)); clear g_g1; have hlt5 := (hB_4.keptAll hb5).lt; have hsz5 := hb5.size; have f_vs_5 := (f_vs_4.below hb5).below (Below.alloc (Below.refl _ _) (Nat.le_refl _) (.cells (mc zeroM) 28)); have hX_5 := (hX_4.keptAll hb5).alloc (.cells (mc zeroM) 28); have hltX_5 := (hX_4.keptAll hb5).lt; clear hB_4 hbw4 f_vs_4 hX_4) | (with_reducible show wpList _ _ _ _ _ _; refine wpList_store_row rfl 28 _ _ rfl w5.heap.size 0 (mc R) rfl rfl _ _ hY_5 (by rw [HR.out, Hzs.out]; omega) (by rw [HR.out]; exact size_mach) (mc_one _) _ Hov.out ?_; intro w6 hs6; have hB_6 := hs6.keep (by omega) hB_5; have hbw6 := hs6.below _ _ (by omega) hbw5; have hY_6 := hs6.blk; have hsz6 := hY_6.lt; have f_vs_6 := ownI_at f_vs_5 (fun j hj => hs6.other j (by have := lt_vs.out j hj; omega)); have f_g1_6 := ownI_at f_g1_5 (fun j hj => hs6.other j (by have := lt_g1.out j hj; omega)); have hX_6 := hs6.keep (by omega) hX_5; clear hs6 hB_5 hbw5 hY_5 f_vs_5 f_g1_5 hX_5) | (with_reducible show wpList _ _ _ _ _ _; refine wpList_load_blk rfl 28 _ rfl w5.heap.size 0 rfl (mc R) _ hY_6 98 (by rw [HR.out]; omega) _ Try.underlying28 rfl size_mach ?_; rw [R1.out]) | (with_reducible show wpList _ _ _ _ _ _; refine wpList_load_blk rfl 28 _ rfl w2.heap.size 0 rfl (mc R) _ hX_6 98 (by rw [HR.out]; omega) _ Try.underlying28 rfl size_mach ?_; rw [R1.out]) | (go_at_call 20; refine (eqMachine_same R HRok.out _).mono ?_; rintro e w7 ⟨rfl, hb7⟩; have hB_7 := hB_6.keptAll hb7))
  have hbw7 := below_step hbw6 hb7
  have hsz7 := hb7.size
  have f_vs_7 := f_vs_6.below hb7
  have f_g1_7 := f_g1_6.below hb7
  have hX_7 := hX_6.keptAll hb7
  have hY_7 := hY_6.keptAll hb7
  clear hB_6 hbw6 f_vs_6 f_g1_6 hX_6 hY_6
  clear hY_7
  go_wp2_with (first | (with_reducible show wpList _ _ _ _ _ _; refine wpList_load_blk rfl 25 _ rfl w.heap.size 0 rfl (mc M) _ (by first | exact hB_8 | exact hB_7) 98 F2.out _ Try.underlying25 rfl size_lmach ?_; rw [F1.out]) | (go_at_call 15; refine (eqInt64S_same g1 vs _ _ _ _ f_g1_7 f_vs_7).mono ?_; rintro e w8 ⟨rfl, hb8⟩; have hB_8 := hB_7.keptAll hb8))
  have hbw8 := below_step hbw7 hb8
  have hsz8 := hb8.size
  have f_vs_8 := f_vs_7.below hb8
  have f_g1_8 := f_g1_7.below hb8
  have hX_8 := hX_7.keptAll hb8
  clear hB_7 hbw7 f_vs_7 f_g1_7 hX_7
  go_wp2_with (first | (with_reducible show wpList _ _ _ _ _ _; refine wpList_load_blk rfl 25 _ rfl w.heap.size 0 rfl (mc M) _ (by first | exact hB_9 | exact hB_8) 98 F2.out _ Try.underlying25 rfl size_lmach ?_; rw [F1.out]) | (go_at_call 16; refine (markInt64S_x g1 _ 1 mr _ _ f_g1_8 Hlen.out (by omega) Hmr.out).mono ?_; rintro e w9 ⟨rfl, f_gm_9, hb9, hgs9, hoth9⟩; have hB_9 := hB_8.kept (below_le hb9 (by omega : w.heap.size + 1 ≤ _)) (by omega)))
  clear f_g1_8
  have hbw9 := hbw8.trans (below_le hb9 (by omega))
  have f_vs_9 := f_vs_8.other hoth9 (fun k hk ha => by have q1 := lt_vs.out k hk; have q2 := lt_g1.out k ha; omega)
  have hX_9 := hX_8.kept hb9 (by omega)
  have hsz9 := hgs9
  clear hB_8 hbw8 f_vs_8 hX_8
  have lt_gm := lt_g1; clear lt_g1
  go_wp2_with (first | (with_reducible show wpList _ _ _ _ _ _; refine wpList_load_blk rfl 25 _ rfl w.heap.size 0 rfl (mc M) _ (hB_9) 98 F2.out _ Try.underlying25 rfl size_lmach ?_; rw [F1.out]) | (go_at_call 17; refine (heldInt64S_m g1 _ 1 _ mr _ f_gm_9 Hlen.out (by omega) Hmr.out).mono ?_; rintro e w' ⟨rfl, rfl⟩))
  go_wp2_with (first | (with_reducible show wpList _ _ _ _ _ _; refine wpList_load_blk rfl 25 _ rfl w.heap.size 0 rfl (mc M) _ (by first | exact hB_10 | exact hB_9) 98 F2.out _ Try.underlying25 rfl size_lmach ?_; rw [F1.out]) | (go_at_call 9; refine (toMachine_calls M hok _).mono ?_; rintro e w10 ⟨rfl, hb10⟩; have hB_10 := hB_9.keptAll hb10))
  have hbw10 := below_step hbw9 hb10
  have hsz10 := hb10.size
  have f_vs_10 := f_vs_9.below hb10
  have f_gm_10 := f_gm_9.below hb10
  have hX_10 := hX_9.keptAll hb10
  clear hB_9 hbw9 f_vs_9 f_gm_9 hX_9
  go_wp2_with (first | (with_reducible show wpList _ _ _ _ _ _; refine wpList_load_blk rfl 25 _ rfl w.heap.size 0 rfl (mc M) _ (by first | exact hB_12 | exact hB_11 | exact hB_10) 98 F2.out _ Try.underlying25 rfl size_lmach ?_; rw [F1.out]) | (go_at_call 19; refine (Hi.out _).mono ?_; rintro e w11 ⟨h1, rfl, g_h1, hb11⟩; have hB_11 := (hB_10.keptAll hb11).alloc (.cells (mc zeroM) 28); have hbw11 := below_alloc' (below_step hbw10 hb11) (.cells (mc zeroM) 28); have hV_11 : Blk (w11.alloc (.cells (mc zeroM) 28)) w11.heap.size (mc zeroM) 28 := Blk.new _ _ _; have lt_h1 := Lib.hid (World.ownsRow.lt g_h1); have f_h1_11 := g_h1.below (Below.alloc (Below.refl _ _) (Nat.le_refl _) (.cells (mc zeroM) 28)); clear g_h1; have hlt11 := (hB_10.keptAll hb11).lt; have hsz11 := hb11.size; have f_vs_11 := (f_vs_10.below hb11).below (Below.alloc (Below.refl _ _) (Nat.le_refl _) (.cells (mc zeroM) 28)); have f_gm_11 := (f_gm_10.below hb11).below (Below.alloc (Below.refl _ _) (Nat.le_refl _) (.cells (mc zeroM) 28)); have hX_11 := (hX_10.keptAll hb11).alloc (.cells (mc zeroM) 28); have hltX_11 := (hX_10.keptAll hb11).lt; clear hB_10 hbw10 f_vs_10 f_gm_10 hX_10) | (with_reducible show wpList _ _ _ _ _ _; refine wpList_store_row rfl 28 _ _ rfl w11.heap.size 0 (mc R) rfl rfl _ _ hV_11 (by rw [HR.out, Hzs.out]; omega) (by rw [HR.out]; exact size_mach) (mc_one _) _ Hov.out ?_; intro w12 hs12; have hB_12 := hs12.keep (by omega) hB_11; have hbw12 := hs12.below _ _ (by omega) hbw11; have hV_12 := hs12.blk; have hsz12 := hV_12.lt; have f_vs_12 := ownI_at f_vs_11 (fun j hj => hs12.other j (by have := lt_vs.out j hj; omega)); have f_gm_12 := ownI_at f_gm_11 (fun j hj => hs12.other j (by have := lt_gm.out j hj; omega)); have f_h1_12 := ownI_at f_h1_11 (fun j hj => hs12.other j (by have := lt_h1.out j hj; omega)); have hX_12 := hs12.keep (by omega) hX_11; clear hs12 hB_11 hbw11 hV_11 f_vs_11 f_gm_11 f_h1_11 hX_11) | (with_reducible show wpList _ _ _ _ _ _; refine wpList_load_blk rfl 28 _ rfl w11.heap.size 0 rfl (mc R) _ hV_12 98 (by rw [HR.out]; omega) _ Try.underlying28 rfl size_mach ?_; rw [R1.out]) | (with_reducible show wpList _ _ _ _ _ _; refine wpList_load_blk rfl 28 _ rfl w2.heap.size 0 rfl (mc R) _ hX_12 98 (by rw [HR.out]; omega) _ Try.underlying28 rfl size_mach ?_; rw [R1.out]) | (go_at_call 20; refine (eqMachine_same R HRok.out _).mono ?_; rintro e w13 ⟨rfl, hb13⟩; have hB_13 := hB_12.keptAll hb13))
  have hbw13 := below_step hbw12 hb13
  have hsz13 := hb13.size
  have f_vs_13 := f_vs_12.below hb13
  have f_gm_13 := f_gm_12.below hb13
  have f_h1_13 := f_h1_12.below hb13
  have hX_13 := hX_12.keptAll hb13
  have hV_13 := hV_12.keptAll hb13
  clear hB_12 hbw12 f_vs_12 f_gm_12 f_h1_12 hX_12 hV_12
  go_wp2_with (first | (with_reducible show wpList _ _ _ _ _ _; refine wpList_load_blk rfl 25 _ rfl w.heap.size 0 rfl (mc M) _ (by first | exact hB_14 | exact hB_13) 98 F2.out _ Try.underlying25 rfl size_lmach ?_; rw [F1.out]) | (go_at_call 15; refine (eqInt64S_same h1 vs _ _ _ _ f_h1_13 f_vs_13).mono ?_; rintro e w14 ⟨rfl, hb14⟩; have hB_14 := hB_13.keptAll hb14))
  have hbw14 := below_step hbw13 hb14
  have hsz14 := hb14.size
  have f_vs_14 := f_vs_13.below hb14
  have f_gm_14 := f_gm_13.below hb14
  have f_h1_14 := f_h1_13.below hb14
  have hX_14 := hX_13.keptAll hb14
  have hV_14 := hV_13.keptAll hb14
  clear hB_13 hbw13 f_vs_13 f_gm_13 f_h1_13 hX_13 hV_13
  go_wp2_with (first | (with_reducible show wpList _ _ _ _ _ _; refine wpList_load_blk rfl 25 _ rfl w.heap.size 0 rfl (mc M) _ (hB_14) 98 F2.out _ Try.underlying25 rfl size_lmach ?_; rw [F1.out]) | (go_at_call 17; refine (heldInt64S_m g1 _ 1 _ mr _ f_gm_14 Hlen.out (by omega) Hmr.out).mono ?_; rintro e w' ⟨rfl, rfl⟩))
  go_ret
  exact ⟨rfl, hbw14⟩
end Go.Proofs.Ytgcieocknlhjlab
