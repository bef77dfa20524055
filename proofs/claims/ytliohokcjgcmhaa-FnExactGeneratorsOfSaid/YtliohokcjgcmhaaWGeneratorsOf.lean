/- The statement on 'GeneratorsOf', walked: equal, of its own memory, and again. Written by genlaw.py. -/
import Derived.Test.YtliohokcjgcmhaaMarks
import Derived.Test.YtliohokcjgcmhaaConv
import Derived.Test.YtliohokcjgcmhaaGnI
import Derived.Test.YtliohokcjgcmhaaGnS
namespace Go.Proofs.Ytliohokcjgcmhaa
open Go.RowKit

set_option linter.unusedVariables false in
set_option maxRecDepth 100000 in
set_option maxHeartbeats 4000000 in
theorem lawGeneratorsOf (M : Mach) (hok : M.Ok)  (w : World)  :
    Calls Try.prog 12 #[.agg (mc M), ] w fun e w' => e = .returned (.bool true) ∧ Below w.heap.size w w' := by
  have F1 : Hid (cut (mc M) 0 98 = mc M) := Lib.hid (cut_all _ _ (mc_size hok)); have F2 : Hid (0 + 98 ≤ (mc M).size) := Lib.hid (by rw [mc_size hok]; omega)
  have hB : Blk (w.alloc (.cells (mc M) 25)) w.heap.size (mc M) 25 := Blk.new w _ _
  have Hlen := Lib.hid (show (gnL M).length ≤ 1048576 from gnL_len hok)
  obtain ⟨mr, hmr⟩ : ∃ m : Nat, 1 + (gnL M).length = m := ⟨_, rfl⟩
  have hmr0 : ¬ ((mr : Int) < 0) := by omega
  have Hmr := Lib.hid hmr; clear hmr
  have hbw0 : Below w.heap.size w (w.alloc (.cells (mc M) 25)) := by (repeat (first | exact Below.refl _ _ | refine below_drew' ?_ | refine below_drewN' ?_ _ | refine below_alloc' ?_ _ | refine below_set' ?_ (by (try simp); (try omega)) _ | refine below_step ?_ (by assumption)))
  go_enter Try.func12, Try.ntmps12
  have hB_0 := hB; clear hB
  have hs0 : (w.alloc (.cells (mc M) 25)).heap.size = w.heap.size + 1 := by simp
  go_wp2_with (first | (with_reducible show wpList _ _ _ _ _ _; refine wpList_load_blk rfl 25 _ rfl w.heap.size 0 rfl (mc M) _ (hB_0) 98 F2.out _ Try.underlying25 rfl size_lmach ?_; rw [F1.out]) | (go_at_call 16; refine (toMachine_calls M hok _).mono ?_; rintro e w1 ⟨rfl, hb1⟩; have hB_1 := hB_0.keptAll hb1))
  have hbw1 := below_step hbw0 hb1
  have hsz1 := hb1.size
  clear hB_0 hbw0
  go_wp2_with (first | (with_reducible show wpList _ _ _ _ _ _; refine wpList_load_blk rfl 25 _ rfl w.heap.size 0 rfl (mc M) _ (hB_2) 98 F2.out _ Try.underlying25 rfl size_lmach ?_; rw [F1.out]) | (go_at_call 44; refine (sGeneratorsOf_calls M hok  _ ).mono ?_; rintro e w2 ⟨vs, rfl, g_vs, hb2⟩; have hB_2 := hB_1.keptAll hb2))
  have hbw2 := below_step hbw1 hb2
  have hsz2 := hb2.size
  clear hB_1 hbw1
  have f_vs_2 := g_vs
  have lt_vs := Lib.hid (World.ownsRow.lt g_vs); clear g_vs
  go_wp2_with (first | (with_reducible show wpList _ _ _ _ _ _; refine wpList_load_blk rfl 25 _ rfl w.heap.size 0 rfl (mc M) _ (hB_2) 98 F2.out _ Try.underlying25 rfl size_lmach ?_; rw [F1.out]) | (go_at_call 16; refine (toMachine_calls M hok _).mono ?_; rintro e w3 ⟨rfl, hb3⟩; have hB_3 := hB_2.keptAll hb3))
  have hbw3 := below_step hbw2 hb3
  have f_vs_3 := f_vs_2.below hb3
  have hsz3 := hb3.size
  clear hB_2 hbw2 f_vs_2
  go_wp2_with (first | (with_reducible show wpList _ _ _ _ _ _; refine wpList_load_blk rfl 25 _ rfl w.heap.size 0 rfl (mc M) _ (hB_4) 98 F2.out _ Try.underlying25 rfl size_lmach ?_; rw [F1.out]) | (go_at_call 45; refine (iGeneratorsOf_calls M hok  _ ).mono ?_; rintro e w4 ⟨g0, rfl, g_g0, hb4⟩; have hB_4 := hB_3.keptAll hb4))
  have hbw4 := below_step hbw3 hb4
  have f_vs_4 := f_vs_3.below hb4
  have hsz4 := hb4.size
  clear hB_3 hbw3 f_vs_3
  have f_g0_4 := g_g0
  have lt_g0 := Lib.hid (World.ownsRow.lt g_g0); clear g_g0
  go_wp2_with (first | (with_reducible show wpList _ _ _ _ _ _; refine wpList_load_blk rfl 25 _ rfl w.heap.size 0 rfl (mc M) _ (hB_5) 98 F2.out _ Try.underlying25 rfl size_lmach ?_; rw [F1.out]) | (go_at_call 20; refine (eqInt64S_same g0 vs _ _ _ _ f_g0_4 f_vs_4).mono ?_; rintro e w5 ⟨rfl, hb5⟩; have hB_5 := hB_4.keptAll hb5))
  have hbw5 := below_step hbw4 hb5
  have f_vs_5 := f_vs_4.below hb5
  have f_g0_5 := f_g0_4.below hb5
  have hsz5 := hb5.size
  clear hB_4 hbw4 f_vs_4 f_g0_4
  go_wp2_with (first | (with_reducible show wpList _ _ _ _ _ _; refine wpList_load_blk rfl 25 _ rfl w.heap.size 0 rfl (mc M) _ (hB_6) 98 F2.out _ Try.underlying25 rfl size_lmach ?_; rw [F1.out]) | (go_at_call 24; refine (markInt64S_x g0 _ 1 mr _ _ f_g0_5 Hlen.out (by omega) Hmr.out).mono ?_; rintro e w6 ⟨rfl, mk_g0, hb6, hgs6, hoth6⟩; have hB_6 := hB_5.kept (below_le hb6 (by omega : w.heap.size + 1 ≤ _)) (by omega)))
  clear f_g0_5
  have hbw6 := hbw5.trans (below_le hb6 (by omega))
  have f_vs_6 := f_vs_5.other hoth6 (fun k hk ha => by have q1 := lt_vs.out k hk; have q2 := lt_g0.out k ha; omega)
  have hsz6 := hgs6
  clear hB_5 hbw5 f_vs_5
  have f_gm_6 := mk_g0
  go_wp2_with (first | (with_reducible show wpList _ _ _ _ _ _; refine wpList_load_blk rfl 25 _ rfl w.heap.size 0 rfl (mc M) _ (hB_6) 98 F2.out _ Try.underlying25 rfl size_lmach ?_; rw [F1.out]) | (go_at_call 29; refine (heldInt64S_m g0 _ 1 _ mr _ f_gm_6 Hlen.out (by omega) Hmr.out).mono ?_; rintro e w' ⟨rfl, rfl⟩))
  go_wp2_with (first | (with_reducible show wpList _ _ _ _ _ _; refine wpList_load_blk rfl 25 _ rfl w.heap.size 0 rfl (mc M) _ (hB_6) 98 F2.out _ Try.underlying25 rfl size_lmach ?_; rw [F1.out]) | (go_at_call 16; refine (toMachine_calls M hok _).mono ?_; rintro e w7 ⟨rfl, hb7⟩; have hB_7 := hB_6.keptAll hb7))
  have hbw7 := below_step hbw6 hb7
  have f_vs_7 := f_vs_6.below hb7
  have f_gm_7 := f_gm_6.below hb7
  have hsz7 := hb7.size
  clear hB_6 hbw6 f_vs_6 f_gm_6
  go_wp2_with (first | (with_reducible show wpList _ _ _ _ _ _; refine wpList_load_blk rfl 25 _ rfl w.heap.size 0 rfl (mc M) _ (hB_8) 98 F2.out _ Try.underlying25 rfl size_lmach ?_; rw [F1.out]) | (go_at_call 45; refine (iGeneratorsOf_calls M hok  _ ).mono ?_; rintro e w8 ⟨h0, rfl, g_h0, hb8⟩; have hB_8 := hB_7.keptAll hb8))
  have hbw8 := below_step hbw7 hb8
  have f_vs_8 := f_vs_7.below hb8
  have f_gm_8 := f_gm_7.below hb8
  have hsz8 := hb8.size
  clear hB_7 hbw7 f_vs_7 f_gm_7
  have f_h0_8 := g_h0
  have lt_h0 := Lib.hid (World.ownsRow.lt g_h0); clear g_h0
  go_wp2_with (first | (with_reducible show wpList _ _ _ _ _ _; refine wpList_load_blk rfl 25 _ rfl w.heap.size 0 rfl (mc M) _ (hB_9) 98 F2.out _ Try.underlying25 rfl size_lmach ?_; rw [F1.out]) | (go_at_call 20; refine (eqInt64S_same h0 vs _ _ _ _ f_h0_8 f_vs_8).mono ?_; rintro e w9 ⟨rfl, hb9⟩; have hB_9 := hB_8.keptAll hb9))
  have hbw9 := below_step hbw8 hb9
  have f_vs_9 := f_vs_8.below hb9
  have f_gm_9 := f_gm_8.below hb9
  have f_h0_9 := f_h0_8.below hb9
  have hsz9 := hb9.size
  clear hB_8 hbw8 f_vs_8 f_gm_8 f_h0_8
  go_wp2_with (first | (with_reducible show wpList _ _ _ _ _ _; refine wpList_load_blk rfl 25 _ rfl w.heap.size 0 rfl (mc M) _ (hB_9) 98 F2.out _ Try.underlying25 rfl size_lmach ?_; rw [F1.out]) | (go_at_call 29; refine (heldInt64S_m g0 _ 1 _ mr _ f_gm_9 Hlen.out (by omega) Hmr.out).mono ?_; rintro e w' ⟨rfl, rfl⟩))
  go_ret
  exact ⟨rfl, hbw9⟩
end Go.Proofs.Ytliohokcjgcmhaa
