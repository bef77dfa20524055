/- The statement on 'ReturnOf', walked: equal, of its own memory, and again. Written by genlaw.py. -/
import Derived.Test.YticnpajbefflbacMarks
import Derived.Test.YticnpajbefflbacConv
import Derived.Test.YticnpajbefflbacRtT
namespace Go.Proofs.Yticnpajbefflbac
open Go.RowKit

set_option linter.unusedVariables false in
set_option maxRecDepth 100000 in
set_option maxHeartbeats 4000000 in
theorem lawReturnOf (M : Mach) (hok : M.Ok) (v1 : Value) (zs1 : List Int) (k2 : Int) (hk2 : (Lit.int .i64 k2).wf = true) (w : World) (ha1 : ArgI w v1 zs1) :
    Calls Try.prog 3 #[.agg (mc M), v1, .int .i64 k2] w fun e w' => e = .returned (.bool true) ∧ Below w.heap.size w w' := by
  obtain ⟨oa1, ca1, rfl, hb01⟩ := ha1.2; clear hb01
  by_cases hn1 : zs1.length ≤ 1048576
  rotate_left
  · have hf1 : 1048576 < (zs1.length : Int) := by omega
    go_enter Try.func3, Try.ntmps3
    go_wp2
    go_ret
    exact ⟨rfl, by (repeat (first | exact Below.refl _ _ | refine below_drew' ?_ | refine below_drewN' ?_ _ | refine below_alloc' ?_ _ | refine below_set' ?_ (by (try simp); (try omega)) _ | refine below_step ?_ (by assumption)))⟩
  have hf1 : ¬ (1048576 < (zs1.length : Int)) := by omega
  have F1 : Hid (cut (mc M) 0 98 = mc M) := Lib.hid (cut_all _ _ (mc_size hok)); have F2 : Hid (0 + 98 ≤ (mc M).size) := Lib.hid (by rw [mc_size hok]; omega)
  have hB : Blk (w.alloc (.cells (mc M) 25)) w.heap.size (mc M) 25 := Blk.new w _ _
  have Hlen := Lib.hid (show (rtW M zs1 k2).length ≤ 1048576 from rtW_len M hok zs1 k2)
  obtain ⟨m1, hm1⟩ : ∃ m : Nat, 1 + zs1.length = m := ⟨_, rfl⟩
  have hml1 : m1 ≤ 1048577 := by omega
  have hm0 : ¬ ((m1 : Int) < 0) := by omega
  obtain ⟨mr, hmr⟩ : ∃ m : Nat, 1 + (rtW M zs1 k2).length = m := ⟨_, rfl⟩
  have hmr0 : ¬ ((mr : Int) < 0) := by omega
  have Hmr := Lib.hid hmr; clear hmr
  have Hm1 := Lib.hid hm1; clear hm1
  have hbw0 : Below w.heap.size w (w.alloc (.cells (mc M) 25)) := by (repeat (first | exact Below.refl _ _ | refine below_drew' ?_ | refine below_drewN' ?_ _ | refine below_alloc' ?_ _ | refine below_set' ?_ (by (try simp); (try omega)) _ | refine below_step ?_ (by assumption)))
  have hA1_0 := ha1.below hbw0
  have Ha := Lib.hid (ha1)
  clear ha1
  go_enter Try.func3, Try.ntmps3
  have hB_0 := hB; clear hB
  have hs0 : (w.alloc (.cells (mc M) 25)).heap.size = w.heap.size + 1 := by simp
  go_wp2_with (first | (with_reducible show wpList _ _ _ _ _ _; refine wpList_load_blk rfl 25 _ rfl w.heap.size 0 rfl (mc M) _ (hB_0) 98 F2.out _ Try.underlying25 rfl size_lmach ?_; rw [F1.out]) | (go_at_call 10; refine (toMachine_calls M hok _).mono ?_; rintro e w1 ⟨rfl, hb1⟩; have hB_1 := hB_0.keptAll hb1))
  have hbw1 := below_step hbw0 hb1
  have hA1_1 := hA1_0.below hb1
  have hsz1 := hb1.size
  clear hB_0 hbw0 hA1_0
  go_wp2_with (first | (with_reducible show wpList _ _ _ _ _ _; refine wpList_load_blk rfl 25 _ rfl w.heap.size 0 rfl (mc M) _ (hB_2) 98 F2.out _ Try.underlying25 rfl size_lmach ?_; rw [F1.out]) | (go_at_call 11; refine (toInt64S_calls _ zs1 _ hA1_1 hn1).mono ?_; rintro e w2 ⟨va1, rfl, g_va1, hb2⟩; have hB_2 := hB_1.keptAll hb2))
  have hbw2 := below_step hbw1 hb2
  have hA1_2 := hA1_1.below hb2
  have hsz2 := hb2.size
  clear hB_1 hbw1 hA1_1
  have f_va1_2 := g_va1
  have lt_va1 := Lib.hid (World.ownsRow.lt g_va1); clear g_va1
  go_wp2_with (first | (with_reducible show wpList _ _ _ _ _ _; refine wpList_load_blk rfl 25 _ rfl w.heap.size 0 rfl (mc M) _ (hB_3) 98 F2.out _ Try.underlying25 rfl size_lmach ?_; rw [F1.out]) | (go_at_call 9; refine (sReturnOf_calls M hok va1 zs1 k2 _ f_va1_2.sees).mono ?_; rintro e w3 ⟨vs, rfl, g_vs, hb3⟩; have hB_3 := hB_2.keptAll hb3))
  have hbw3 := below_step hbw2 hb3
  have f_va1_3 := f_va1_2.below hb3
  have hA1_3 := hA1_2.below hb3
  have hsz3 := hb3.size
  clear hB_2 hbw2 f_va1_2 hA1_2
  have f_vs_3 := g_vs
  have lt_vs := Lib.hid (World.ownsRow.lt g_vs); clear g_vs
  clear f_va1_3 lt_va1
  go_wp2_with (first | (with_reducible show wpList _ _ _ _ _ _; refine wpList_load_blk rfl 25 _ rfl w.heap.size 0 rfl (mc M) _ (hB_4) 98 F2.out _ Try.underlying25 rfl size_lmach ?_; rw [F1.out]) | (go_at_call 11; refine (toInt64S_calls _ zs1 _ hA1_3 hn1).mono ?_; rintro e w4 ⟨x1, rfl, g_x1, hb4⟩; have hB_4 := hB_3.keptAll hb4))
  have hbw4 := below_step hbw3 hb4
  have f_vs_4 := f_vs_3.below hb4
  have hA1_4 := hA1_3.below hb4
  have hsz4 := hb4.size
  clear hB_3 hbw3 f_vs_3 hA1_3
  have f_x1_4 := g_x1
  have lt_x1 := Lib.hid (World.ownsRow.lt g_x1); clear g_x1
  go_wp2_with (first | (with_reducible show wpList _ _ _ _ _ _; refine wpList_load_blk rfl 25 _ rfl w.heap.size 0 rfl (mc M) _ (hB_4) 98 F2.out _ Try.underlying25 rfl size_lmach ?_; rw [F1.out]) | (go_at_call 10; refine (toMachine_calls M hok _).mono ?_; rintro e w5 ⟨rfl, hb5⟩; have hB_5 := hB_4.keptAll hb5))
  have hbw5 := below_step hbw4 hb5
  have f_vs_5 := f_vs_4.below hb5
  have f_x1_5 := f_x1_4.below hb5
  have hA1_5 := hA1_4.below hb5
  have hsz5 := hb5.size
  clear hB_4 hbw4 f_vs_4 f_x1_4 hA1_4
  go_wp2_with (first | (with_reducible show wpList _ _ _ _ _ _; refine wpList_load_blk rfl 25 _ rfl w.heap.size 0 rfl (mc M) _ (hB_6) 98 F2.out _ Try.underlying25 rfl size_lmach ?_; rw [F1.out]) | (go_at_call 12; refine (iReturnOf_calls M hok x1 zs1 k2 _ f_x1_5.sees).mono ?_; rintro e w6 ⟨g0, rfl, g_g0, hb6⟩; have hB_6 := hB_5.keptAll hb6))
  have hbw6 := below_step hbw5 hb6
  have f_vs_6 := f_vs_5.below hb6
  have f_x1_6 := f_x1_5.below hb6
  have hA1_6 := hA1_5.below hb6
  have hsz6 := hb6.size
  clear hB_5 hbw5 f_vs_5 f_x1_5 hA1_5
  have f_g0_6 := g_g0
  have lt_g0 := Lib.hid (World.ownsRow.lt g_g0); clear g_g0
  go_wp2_with (first | (with_reducible show wpList _ _ _ _ _ _; refine wpList_load_blk rfl 25 _ rfl w.heap.size 0 rfl (mc M) _ (hB_7) 98 F2.out _ Try.underlying25 rfl size_lmach ?_; rw [F1.out]) | (go_at_call 13; refine (eqInt64S_same g0 vs _ _ _ _ f_g0_6 f_vs_6).mono ?_; rintro e w7 ⟨rfl, hb7⟩; have hB_7 := hB_6.keptAll hb7))
  have hbw7 := below_step hbw6 hb7
  have f_vs_7 := f_vs_6.below hb7
  have f_x1_7 := f_x1_6.below hb7
  have f_g0_7 := f_g0_6.below hb7
  have hA1_7 := hA1_6.below hb7
  have hsz7 := hb7.size
  clear hB_6 hbw6 f_vs_6 f_x1_6 f_g0_6 hA1_6
  go_wp2_with (first | (with_reducible show wpList _ _ _ _ _ _; refine wpList_load_blk rfl 25 _ rfl w.heap.size 0 rfl (mc M) _ (hB_8) 98 F2.out _ Try.underlying25 rfl size_lmach ?_; rw [F1.out]) | (go_at_call 11; refine (toInt64S_calls _ zs1 _ hA1_7 hn1).mono ?_; rintro e w8 ⟨vb1, rfl, g_vb1, hb8⟩; have hB_8 := hB_7.keptAll hb8))
  have hbw8 := below_step hbw7 hb8
  have f_vs_8 := f_vs_7.below hb8
  have f_x1_8 := f_x1_7.below hb8
  have f_g0_8 := f_g0_7.below hb8
  have hA1_8 := hA1_7.below hb8
  have hsz8 := hb8.size
  clear hB_7 hbw7 f_vs_7 f_x1_7 f_g0_7 hA1_7
  have f_vb1_8 := g_vb1
  have lt_vb1 := Lib.hid (World.ownsRow.lt g_vb1); clear g_vb1
  go_wp2_with (first | (with_reducible show wpList _ _ _ _ _ _; refine wpList_load_blk rfl 25 _ rfl w.heap.size 0 rfl (mc M) _ (hB_9) 98 F2.out _ Try.underlying25 rfl size_lmach ?_; rw [F1.out]) | (go_at_call 13; refine (eqInt64S_same x1 vb1 _ _ _ _ f_x1_8 f_vb1_8).mono ?_; rintro e w9 ⟨rfl, hb9⟩; have hB_9 := hB_8.keptAll hb9))
  have hbw9 := below_step hbw8 hb9
  have f_vs_9 := f_vs_8.below hb9
  have f_x1_9 := f_x1_8.below hb9
  have f_g0_9 := f_g0_8.below hb9
  have f_vb1_9 := f_vb1_8.below hb9
  have hA1_9 := hA1_8.below hb9
  have hsz9 := hb9.size
  clear hB_8 hbw8 f_vs_8 f_x1_8 f_g0_8 f_vb1_8 hA1_8
  clear f_vb1_9 lt_vb1
  go_wp2_with (first | (with_reducible show wpList _ _ _ _ _ _; refine wpList_load_blk rfl 25 _ rfl w.heap.size 0 rfl (mc M) _ (hB_10) 98 F2.out _ Try.underlying25 rfl size_lmach ?_; rw [F1.out]) | (go_at_call 14; refine (markInt64S_x x1 _ 1 m1 _ _ f_x1_9 (by omega) (by omega) Hm1.out).mono ?_; rintro e w10 ⟨rfl, mk_x1, hb10, hgs10, hoth10⟩; have hB_10 := hB_9.kept (below_le hb10 (by omega : w.heap.size + 1 ≤ _)) (by omega)))
  clear f_x1_9
  have hbw10 := hbw9.trans (below_le hb10 (by omega))
  have f_vs_10 := f_vs_9.other hoth10 (fun k hk ha => by have q1 := lt_vs.out k hk; have q2 := lt_x1.out k ha; omega)
  have f_g0_10 := f_g0_9.other hoth10 (fun k hk ha => by have q1 := lt_g0.out k hk; have q2 := lt_x1.out k ha; omega)
  have hA1_10 := (Ha.out).below hbw10
  have hsz10 := hgs10
  clear hB_9 hbw9 f_vs_9 f_g0_9 hA1_9
  go_wp2_with (first | (with_reducible show wpList _ _ _ _ _ _; refine wpList_load_blk rfl 25 _ rfl w.heap.size 0 rfl (mc M) _ (hB_11) 98 F2.out _ Try.underlying25 rfl size_lmach ?_; rw [F1.out]) | (go_at_call 13; refine (eqInt64S_same g0 vs _ _ _ _ f_g0_10 f_vs_10).mono ?_; rintro e w11 ⟨rfl, hb11⟩; have hB_11 := hB_10.keptAll hb11))
  have hbw11 := below_step hbw10 hb11
  have f_vs_11 := f_vs_10.below hb11
  have f_g0_11 := f_g0_10.below hb11
  have hA1_11 := hA1_10.below hb11
  have hsz11 := hb11.size
  clear hB_10 hbw10 f_vs_10 f_g0_10 hA1_10
  go_wp2_with (first | (with_reducible show wpList _ _ _ _ _ _; refine wpList_load_blk rfl 25 _ rfl w.heap.size 0 rfl (mc M) _ (hB_12) 98 F2.out _ Try.underlying25 rfl size_lmach ?_; rw [F1.out]) | (go_at_call 14; refine (markInt64S_x g0 _ 1 mr _ _ f_g0_11 Hlen.out (by omega) Hmr.out).mono ?_; rintro e w12 ⟨rfl, mk_g0, hb12, hgs12, hoth12⟩; have hB_12 := hB_11.kept (below_le hb12 (by omega : w.heap.size + 1 ≤ _)) (by omega)))
  clear f_g0_11
  have hbw12 := hbw11.trans (below_le hb12 (by omega))
  have f_vs_12 := f_vs_11.other hoth12 (fun k hk ha => by have q1 := lt_vs.out k hk; have q2 := lt_g0.out k ha; omega)
  have hA1_12 := (Ha.out).below hbw12
  have hsz12 := hgs12
  clear hB_11 hbw11 f_vs_11 hA1_11
  have f_gm_12 := mk_g0
  go_wp2_with (first | (with_reducible show wpList _ _ _ _ _ _; refine wpList_load_blk rfl 25 _ rfl w.heap.size 0 rfl (mc M) _ (hB_12) 98 F2.out _ Try.underlying25 rfl size_lmach ?_; rw [F1.out]) | (go_at_call 15; refine (heldInt64S_m g0 _ 1 _ mr _ f_gm_12 Hlen.out (by omega) Hmr.out).mono ?_; rintro e w' ⟨rfl, rfl⟩))
  go_wp2_with (first | (with_reducible show wpList _ _ _ _ _ _; refine wpList_load_blk rfl 25 _ rfl w.heap.size 0 rfl (mc M) _ (hB_12) 98 F2.out _ Try.underlying25 rfl size_lmach ?_; rw [F1.out]) | (go_at_call 10; refine (toMachine_calls M hok _).mono ?_; rintro e w13 ⟨rfl, hb13⟩; have hB_13 := hB_12.keptAll hb13))
  have hbw13 := below_step hbw12 hb13
  have f_vs_13 := f_vs_12.below hb13
  have f_gm_13 := f_gm_12.below hb13
  have hA1_13 := hA1_12.below hb13
  have hsz13 := hb13.size
  clear hB_12 hbw12 f_vs_12 f_gm_12 hA1_12
  go_wp2_with (first | (with_reducible show wpList _ _ _ _ _ _; refine wpList_load_blk rfl 25 _ rfl w.heap.size 0 rfl (mc M) _ (hB_14) 98 F2.out _ Try.underlying25 rfl size_lmach ?_; rw [F1.out]) | (go_at_call 11; refine (toInt64S_calls _ zs1 _ hA1_13 hn1).mono ?_; rintro e w14 ⟨vc1, rfl, g_vc1, hb14⟩; have hB_14 := hB_13.keptAll hb14))
  have hbw14 := below_step hbw13 hb14
  have f_vs_14 := f_vs_13.below hb14
  have f_gm_14 := f_gm_13.below hb14
  have hA1_14 := hA1_13.below hb14
  have hsz14 := hb14.size
  clear hB_13 hbw13 f_vs_13 f_gm_13 hA1_13
  have f_vc1_14 := g_vc1
  have lt_vc1 := Lib.hid (World.ownsRow.lt g_vc1); clear g_vc1
  go_wp2_with (first | (with_reducible show wpList _ _ _ _ _ _; refine wpList_load_blk rfl 25 _ rfl w.heap.size 0 rfl (mc M) _ (hB_15) 98 F2.out _ Try.underlying25 rfl size_lmach ?_; rw [F1.out]) | (go_at_call 12; refine (iReturnOf_calls M hok vc1 zs1 k2 _ f_vc1_14.sees).mono ?_; rintro e w15 ⟨h0, rfl, g_h0, hb15⟩; have hB_15 := hB_14.keptAll hb15))
  have hbw15 := below_step hbw14 hb15
  have f_vs_15 := f_vs_14.below hb15
  have f_gm_15 := f_gm_14.below hb15
  have f_vc1_15 := f_vc1_14.below hb15
  have hA1_15 := hA1_14.below hb15
  have hsz15 := hb15.size
  clear hB_14 hbw14 f_vs_14 f_gm_14 f_vc1_14 hA1_14
  have f_h0_15 := g_h0
  have lt_h0 := Lib.hid (World.ownsRow.lt g_h0); clear g_h0
  clear f_vc1_15 lt_vc1
  go_wp2_with (first | (with_reducible show wpList _ _ _ _ _ _; refine wpList_load_blk rfl 25 _ rfl w.heap.size 0 rfl (mc M) _ (hB_16) 98 F2.out _ Try.underlying25 rfl size_lmach ?_; rw [F1.out]) | (go_at_call 13; refine (eqInt64S_same h0 vs _ _ _ _ f_h0_15 f_vs_15).mono ?_; rintro e w16 ⟨rfl, hb16⟩; have hB_16 := hB_15.keptAll hb16))
  have hbw16 := below_step hbw15 hb16
  have f_vs_16 := f_vs_15.below hb16
  have f_gm_16 := f_gm_15.below hb16
  have f_h0_16 := f_h0_15.below hb16
  have hA1_16 := hA1_15.below hb16
  have hsz16 := hb16.size
  clear hB_15 hbw15 f_vs_15 f_gm_15 f_h0_15 hA1_15
  go_wp2_with (first | (with_reducible show wpList _ _ _ _ _ _; refine wpList_load_blk rfl 25 _ rfl w.heap.size 0 rfl (mc M) _ (hB_16) 98 F2.out _ Try.underlying25 rfl size_lmach ?_; rw [F1.out]) | (go_at_call 15; refine (heldInt64S_m g0 _ 1 _ mr _ f_gm_16 Hlen.out (by omega) Hmr.out).mono ?_; rintro e w' ⟨rfl, rfl⟩))
  go_ret
  exact ⟨rfl, hbw16⟩
end Go.Proofs.Yticnpajbefflbac
