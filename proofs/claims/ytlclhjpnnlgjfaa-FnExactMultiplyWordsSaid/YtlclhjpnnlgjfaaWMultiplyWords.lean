/- The statement on 'MultiplyWords', walked: equal, of its own memory, and again. Written by genlaw.py. -/
import Derived.Test.YtlclhjpnnlgjfaaMarks
import Derived.Test.YtlclhjpnnlgjfaaConv
import Derived.Test.YtlclhjpnnlgjfaaGrpJi
import Derived.Test.YtlclhjpnnlgjfaaGrpJs
namespace Go.Proofs.Ytlclhjpnnlgjfaa
open Go.RowKit

set_option maxRecDepth 100000 in
set_option maxHeartbeats 4000000 in
theorem lawMultiplyWords (M : Mach) (hok : M.Ok) (v1 : Value) (zs1 : List Int) (v2 : Value) (zs2 : List Int) (w : World) (ha1 : ArgI w v1 zs1) (ha2 : ArgI w v2 zs2) :
    Calls Try.prog 4 #[.agg (mc M), v1, v2] w fun e w' => e = .returned (.bool true) ∧ Below w.heap.size w w' := by
  obtain ⟨oa1, ca1, rfl, hb01⟩ := ha1.2; clear hb01
  obtain ⟨oa2, ca2, rfl, hb02⟩ := ha2.2; clear hb02
  by_cases hn1 : zs1.length ≤ 1048576
  rotate_left
  · have hf1 : 1048576 < (zs1.length : Int) := by omega
    go_enter Try.func4, Try.ntmps4
    go_wp2
    go_ret
    exact ⟨rfl, by (repeat (first | exact Below.refl _ _ | refine below_drew' ?_ | refine below_drewN' ?_ _ | refine below_alloc' ?_ _ | refine below_set' ?_ (by (try simp); (try omega)) _ | refine below_step ?_ (by assumption)))⟩
  by_cases hn2 : zs2.length ≤ 1048576
  rotate_left
  · have hf1 : ¬ (1048576 < (zs1.length : Int)) := by omega
    have hf2 : 1048576 < (zs2.length : Int) := by omega
    go_enter Try.func4, Try.ntmps4
    go_wp2
    go_ret
    exact ⟨rfl, by (repeat (first | exact Below.refl _ _ | refine below_drew' ?_ | refine below_drewN' ?_ _ | refine below_alloc' ?_ _ | refine below_set' ?_ (by (try simp); (try omega)) _ | refine below_step ?_ (by assumption)))⟩
  have hf1 : ¬ (1048576 < (zs1.length : Int)) := by omega
  have hf2 : ¬ (1048576 < (zs2.length : Int)) := by omega
  have F1 : Hid (cut (mc M) 0 98 = mc M) := Lib.hid (cut_all _ _ (mc_size hok)); have F2 : Hid (0 + 98 ≤ (mc M).size) := Lib.hid (by rw [mc_size hok]; omega)
  have hB : Blk (w.alloc (.cells (mc M) 25)) w.heap.size (mc M) 25 := Blk.new w _ _
  have Hlen := Lib.hid (show (mulR M zs1 zs2).length ≤ 1048576 from mulR_len M zs1 zs2)
  obtain ⟨m1, hm1⟩ : ∃ m : Nat, 1 + zs1.length = m := ⟨_, rfl⟩
  have hml1 : m1 ≤ 1048577 := by omega
  obtain ⟨m2, hm2⟩ : ∃ m : Nat, m1 + zs2.length = m := ⟨_, rfl⟩
  have hml2 : m2 ≤ 2097153 := by omega
  have hm0 : ¬ ((m2 : Int) < 0) := by omega
  obtain ⟨mr, hmr⟩ : ∃ m : Nat, 1 + (mulR M zs1 zs2).length = m := ⟨_, rfl⟩
  have hmr0 : ¬ ((mr : Int) < 0) := by omega
  have Hmr := Lib.hid hmr; clear hmr
  have Hm1 := Lib.hid hm1; clear hm1
  have Hm2 := Lib.hid hm2; clear hm2
  have hbw0 : Below w.heap.size w (w.alloc (.cells (mc M) 25)) := by (repeat (first | exact Below.refl _ _ | refine below_drew' ?_ | refine below_drewN' ?_ _ | refine below_alloc' ?_ _ | refine below_set' ?_ (by (try simp); (try omega)) _ | refine below_step ?_ (by assumption)))
  have hA1_0 := ha1.below hbw0
  have hA2_0 := ha2.below hbw0
  have Ha := Lib.hid (And.intro ha1 ha2)
  clear ha1
  clear ha2
  go_enter Try.func4, Try.ntmps4
  have hB_0 := hB; clear hB
  have hs0 : (w.alloc (.cells (mc M) 25)).heap.size = w.heap.size + 1 := by simp
  go_wp2_with (first | (with_reducible show wpList _ _ _ _ _ _; refine wpList_load_blk rfl 25 _ rfl w.heap.size 0 rfl (mc M) _ (hB_0) 98 F2.out _ Try.underlying25 rfl size_lmach ?_; rw [F1.out]) | (go_at_call 8; refine (toMachine_calls M hok _).mono ?_; rintro e w1 ⟨rfl, hb1⟩; have hB_1 := hB_0.keptAll hb1))
  have hbw1 := below_step hbw0 hb1
  have hA1_1 := hA1_0.below hb1
  have hA2_1 := hA2_0.below hb1
  have hsz1 := hb1.size
  clear hB_0 hbw0 hA1_0 hA2_0
  go_wp2_with (first | (with_reducible show wpList _ _ _ _ _ _; refine wpList_load_blk rfl 25 _ rfl w.heap.size 0 rfl (mc M) _ (hB_3) 98 F2.out _ Try.underlying25 rfl size_lmach ?_; rw [F1.out]) | (go_at_call 9; first | (refine (toInt64S_calls _ zs2 _ hA2_2 hn2).mono ?_; rintro e w3 ⟨va2, rfl, g_va2, hb3⟩; have hB_3 := hB_2.keptAll hb3) | (refine (toInt64S_calls _ zs1 _ hA1_1 hn1).mono ?_; rintro e w2 ⟨va1, rfl, g_va1, hb2⟩; have hB_2 := hB_1.keptAll hb2; have hbw2 := below_step hbw1 hb2; have hA1_2 := hA1_1.below hb2; have hA2_2 := hA2_1.below hb2; have hsz2 := hb2.size; clear hB_1 hbw1 hA1_1 hA2_1; have f_va1_2 := g_va1; have lt_va1 := Lib.hid (World.ownsRow.lt g_va1); clear g_va1)))
  have hbw3 := below_step hbw2 hb3
  have f_va1_3 := f_va1_2.below hb3
  have hA1_3 := hA1_2.below hb3
  have hA2_3 := hA2_2.below hb3
  have hsz3 := hb3.size
  clear hB_2 hbw2 f_va1_2 hA1_2 hA2_2
  have f_va2_3 := g_va2
  have lt_va2 := Lib.hid (World.ownsRow.lt g_va2); clear g_va2
  go_wp2_with (first | (with_reducible show wpList _ _ _ _ _ _; refine wpList_load_blk rfl 25 _ rfl w.heap.size 0 rfl (mc M) _ (hB_4) 98 F2.out _ Try.underlying25 rfl size_lmach ?_; rw [F1.out]) | (go_at_call 12; refine (sMultiplyWords_calls M hok va1 zs1 va2 zs2 _ f_va1_3.sees f_va2_3.sees).mono ?_; rintro e w4 ⟨vs, rfl, g_vs, hb4⟩; have hB_4 := hB_3.keptAll hb4))
  have hbw4 := below_step hbw3 hb4
  have f_va1_4 := f_va1_3.below hb4
  have f_va2_4 := f_va2_3.below hb4
  have hA1_4 := hA1_3.below hb4
  have hA2_4 := hA2_3.below hb4
  have hsz4 := hb4.size
  clear hB_3 hbw3 f_va1_3 f_va2_3 hA1_3 hA2_3
  have f_vs_4 := g_vs
  have lt_vs := Lib.hid (World.ownsRow.lt g_vs); clear g_vs
  clear f_va1_4 lt_va1
  clear f_va2_4 lt_va2
  go_wp2_with (first | (with_reducible show wpList _ _ _ _ _ _; refine wpList_load_blk rfl 25 _ rfl w.heap.size 0 rfl (mc M) _ (hB_6) 98 F2.out _ Try.underlying25 rfl size_lmach ?_; rw [F1.out]) | (go_at_call 9; first | (refine (toInt64S_calls _ zs2 _ hA2_5 hn2).mono ?_; rintro e w6 ⟨x2, rfl, g_x2, hb6⟩; have hB_6 := hB_5.keptAll hb6) | (refine (toInt64S_calls _ zs1 _ hA1_4 hn1).mono ?_; rintro e w5 ⟨x1, rfl, g_x1, hb5⟩; have hB_5 := hB_4.keptAll hb5; have hbw5 := below_step hbw4 hb5; have f_vs_5 := f_vs_4.below hb5; have hA1_5 := hA1_4.below hb5; have hA2_5 := hA2_4.below hb5; have hsz5 := hb5.size; clear hB_4 hbw4 f_vs_4 hA1_4 hA2_4; have f_x1_5 := g_x1; have lt_x1 := Lib.hid (World.ownsRow.lt g_x1); clear g_x1)))
  have hbw6 := below_step hbw5 hb6
  have f_vs_6 := f_vs_5.below hb6
  have f_x1_6 := f_x1_5.below hb6
  have hA1_6 := hA1_5.below hb6
  have hA2_6 := hA2_5.below hb6
  have hsz6 := hb6.size
  clear hB_5 hbw5 f_vs_5 f_x1_5 hA1_5 hA2_5
  have f_x2_6 := g_x2
  have lt_x2 := Lib.hid (World.ownsRow.lt g_x2); clear g_x2
  go_wp2_with (first | (with_reducible show wpList _ _ _ _ _ _; refine wpList_load_blk rfl 25 _ rfl w.heap.size 0 rfl (mc M) _ (hB_6) 98 F2.out _ Try.underlying25 rfl size_lmach ?_; rw [F1.out]) | (go_at_call 8; refine (toMachine_calls M hok _).mono ?_; rintro e w7 ⟨rfl, hb7⟩; have hB_7 := hB_6.keptAll hb7))
  have hbw7 := below_step hbw6 hb7
  have f_vs_7 := f_vs_6.below hb7
  have f_x1_7 := f_x1_6.below hb7
  have f_x2_7 := f_x2_6.below hb7
  have hA1_7 := hA1_6.below hb7
  have hA2_7 := hA2_6.below hb7
  have hsz7 := hb7.size
  clear hB_6 hbw6 f_vs_6 f_x1_6 f_x2_6 hA1_6 hA2_6
  go_wp2_with (first | (with_reducible show wpList _ _ _ _ _ _; refine wpList_load_blk rfl 25 _ rfl w.heap.size 0 rfl (mc M) _ (hB_8) 98 F2.out _ Try.underlying25 rfl size_lmach ?_; rw [F1.out]) | (go_at_call 13; refine (iMultiplyWords_calls M hok x1 zs1 x2 zs2 _ f_x1_7.sees f_x2_7.sees).mono ?_; rintro e w8 ⟨g0, rfl, g_g0, hb8⟩; have hB_8 := hB_7.keptAll hb8))
  have hbw8 := below_step hbw7 hb8
  have f_vs_8 := f_vs_7.below hb8
  have f_x1_8 := f_x1_7.below hb8
  have f_x2_8 := f_x2_7.below hb8
  have hA1_8 := hA1_7.below hb8
  have hA2_8 := hA2_7.below hb8
  have hsz8 := hb8.size
  clear hB_7 hbw7 f_vs_7 f_x1_7 f_x2_7 hA1_7 hA2_7
  have f_g0_8 := g_g0
  have lt_g0 := Lib.hid (World.ownsRow.lt g_g0); clear g_g0
  go_wp2_with (first | (with_reducible show wpList _ _ _ _ _ _; refine wpList_load_blk rfl 25 _ rfl w.heap.size 0 rfl (mc M) _ (hB_9) 98 F2.out _ Try.underlying25 rfl size_lmach ?_; rw [F1.out]) | (go_at_call 11; refine (eqInt64S_same g0 vs _ _ _ _ f_g0_8 f_vs_8).mono ?_; rintro e w9 ⟨rfl, hb9⟩; have hB_9 := hB_8.keptAll hb9))
  have hbw9 := below_step hbw8 hb9
  have f_vs_9 := f_vs_8.below hb9
  have f_x1_9 := f_x1_8.below hb9
  have f_x2_9 := f_x2_8.below hb9
  have f_g0_9 := f_g0_8.below hb9
  have hA1_9 := hA1_8.below hb9
  have hA2_9 := hA2_8.below hb9
  have hsz9 := hb9.size
  clear hB_8 hbw8 f_vs_8 f_x1_8 f_x2_8 f_g0_8 hA1_8 hA2_8
  go_wp2_with (first | (with_reducible show wpList _ _ _ _ _ _; refine wpList_load_blk rfl 25 _ rfl w.heap.size 0 rfl (mc M) _ (hB_10) 98 F2.out _ Try.underlying25 rfl size_lmach ?_; rw [F1.out]) | (go_at_call 9; refine (toInt64S_calls _ zs1 _ hA1_9 hn1).mono ?_; rintro e w10 ⟨vb1, rfl, g_vb1, hb10⟩; have hB_10 := hB_9.keptAll hb10))
  have hbw10 := below_step hbw9 hb10
  have f_vs_10 := f_vs_9.below hb10
  have f_x1_10 := f_x1_9.below hb10
  have f_x2_10 := f_x2_9.below hb10
  have f_g0_10 := f_g0_9.below hb10
  have hA1_10 := hA1_9.below hb10
  have hA2_10 := hA2_9.below hb10
  have hsz10 := hb10.size
  clear hB_9 hbw9 f_vs_9 f_x1_9 f_x2_9 f_g0_9 hA1_9 hA2_9
  have f_vb1_10 := g_vb1
  have lt_vb1 := Lib.hid (World.ownsRow.lt g_vb1); clear g_vb1
  go_wp2_with (first | (with_reducible show wpList _ _ _ _ _ _; refine wpList_load_blk rfl 25 _ rfl w.heap.size 0 rfl (mc M) _ (hB_11) 98 F2.out _ Try.underlying25 rfl size_lmach ?_; rw [F1.out]) | (go_at_call 11; refine (eqInt64S_same x1 vb1 _ _ _ _ f_x1_10 f_vb1_10).mono ?_; rintro e w11 ⟨rfl, hb11⟩; have hB_11 := hB_10.keptAll hb11))
  have hbw11 := below_step hbw10 hb11
  have f_vs_11 := f_vs_10.below hb11
  have f_x1_11 := f_x1_10.below hb11
  have f_x2_11 := f_x2_10.below hb11
  have f_g0_11 := f_g0_10.below hb11
  have f_vb1_11 := f_vb1_10.below hb11
  have hA1_11 := hA1_10.below hb11
  have hA2_11 := hA2_10.below hb11
  have hsz11 := hb11.size
  clear hB_10 hbw10 f_vs_10 f_x1_10 f_x2_10 f_g0_10 f_vb1_10 hA1_10 hA2_10
  clear f_vb1_11 lt_vb1
  go_wp2_with (first | (with_reducible show wpList _ _ _ _ _ _; refine wpList_load_blk rfl 25 _ rfl w.heap.size 0 rfl (mc M) _ (hB_12) 98 F2.out _ Try.underlying25 rfl size_lmach ?_; rw [F1.out]) | (go_at_call 9; refine (toInt64S_calls _ zs2 _ hA2_11 hn2).mono ?_; rintro e w12 ⟨vb2, rfl, g_vb2, hb12⟩; have hB_12 := hB_11.keptAll hb12))
  have hbw12 := below_step hbw11 hb12
  have f_vs_12 := f_vs_11.below hb12
  have f_x1_12 := f_x1_11.below hb12
  have f_x2_12 := f_x2_11.below hb12
  have f_g0_12 := f_g0_11.below hb12
  have hA1_12 := hA1_11.below hb12
  have hA2_12 := hA2_11.below hb12
  have hsz12 := hb12.size
  clear hB_11 hbw11 f_vs_11 f_x1_11 f_x2_11 f_g0_11 hA1_11 hA2_11
  have f_vb2_12 := g_vb2
  have lt_vb2 := Lib.hid (World.ownsRow.lt g_vb2); clear g_vb2
  go_wp2_with (first | (with_reducible show wpList _ _ _ _ _ _; refine wpList_load_blk rfl 25 _ rfl w.heap.size 0 rfl (mc M) _ (hB_13) 98 F2.out _ Try.underlying25 rfl size_lmach ?_; rw [F1.out]) | (go_at_call 11; refine (eqInt64S_same x2 vb2 _ _ _ _ f_x2_12 f_vb2_12).mono ?_; rintro e w13 ⟨rfl, hb13⟩; have hB_13 := hB_12.keptAll hb13))
  have hbw13 := below_step hbw12 hb13
  have f_vs_13 := f_vs_12.below hb13
  have f_x1_13 := f_x1_12.below hb13
  have f_x2_13 := f_x2_12.below hb13
  have f_g0_13 := f_g0_12.below hb13
  have f_vb2_13 := f_vb2_12.below hb13
  have hA1_13 := hA1_12.below hb13
  have hA2_13 := hA2_12.below hb13
  have hsz13 := hb13.size
  clear hB_12 hbw12 f_vs_12 f_x1_12 f_x2_12 f_g0_12 f_vb2_12 hA1_12 hA2_12
  clear f_vb2_13 lt_vb2
  go_wp2_with (first | (with_reducible show wpList _ _ _ _ _ _; refine wpList_load_blk rfl 25 _ rfl w.heap.size 0 rfl (mc M) _ (hB_15) 98 F2.out _ Try.underlying25 rfl size_lmach ?_; rw [F1.out]) | (go_at_call 14; first | (refine (markInt64S_x x2 _ m1 m2 _ _ f_x2_14 (by omega) (by omega) Hm2.out).mono ?_; rintro e w15 ⟨rfl, mk_x2, hb15, hgs15, hoth15⟩; have hB_15 := hB_14.kept (below_le hb15 (by omega : w.heap.size + 1 ≤ _)) (by omega)) | (refine (markInt64S_x x1 _ 1 m1 _ _ f_x1_13 (by omega) (by omega) Hm1.out).mono ?_; rintro e w14 ⟨rfl, mk_x1, hb14, hgs14, hoth14⟩; have hB_14 := hB_13.kept (below_le hb14 (by omega : w.heap.size + 1 ≤ _)) (by omega); clear f_x1_13; have hbw14 := hbw13.trans (below_le hb14 (by omega)); have f_vs_14 := f_vs_13.other hoth14 (fun k hk ha => by have q1 := lt_vs.out k hk; have q2 := lt_x1.out k ha; omega); have f_x2_14 := f_x2_13.other hoth14 (fun k hk ha => by have q1 := lt_x2.out k hk; have q2 := lt_x1.out k ha; omega); have f_g0_14 := f_g0_13.other hoth14 (fun k hk ha => by have q1 := lt_g0.out k hk; have q2 := lt_x1.out k ha; omega); have hA1_14 := (Ha.out.1).below hbw14; have hA2_14 := (Ha.out.2).below hbw14; have hsz14 := hgs14; clear hB_13 hbw13 f_vs_13 f_x2_13 f_g0_13 hA1_13 hA2_13)))
  clear f_x2_14
  have hbw15 := hbw14.trans (below_le hb15 (by omega))
  have f_vs_15 := f_vs_14.other hoth15 (fun k hk ha => by have q1 := lt_vs.out k hk; have q2 := lt_x2.out k ha; omega)
  have f_g0_15 := f_g0_14.other hoth15 (fun k hk ha => by have q1 := lt_g0.out k hk; have q2 := lt_x2.out k ha; omega)
  have hA1_15 := (Ha.out.1).below hbw15
  have hA2_15 := (Ha.out.2).below hbw15
  have hsz15 := hgs15
  clear hB_14 hbw14 f_vs_14 f_g0_14 hA1_14 hA2_14
  go_wp2_with (first | (with_reducible show wpList _ _ _ _ _ _; refine wpList_load_blk rfl 25 _ rfl w.heap.size 0 rfl (mc M) _ (hB_16) 98 F2.out _ Try.underlying25 rfl size_lmach ?_; rw [F1.out]) | (go_at_call 11; refine (eqInt64S_same g0 vs _ _ _ _ f_g0_15 f_vs_15).mono ?_; rintro e w16 ⟨rfl, hb16⟩; have hB_16 := hB_15.keptAll hb16))
  have hbw16 := below_step hbw15 hb16
  have f_vs_16 := f_vs_15.below hb16
  have f_g0_16 := f_g0_15.below hb16
  have hA1_16 := hA1_15.below hb16
  have hA2_16 := hA2_15.below hb16
  have hsz16 := hb16.size
  clear hB_15 hbw15 f_vs_15 f_g0_15 hA1_15 hA2_15
  go_wp2_with (first | (with_reducible show wpList _ _ _ _ _ _; refine wpList_load_blk rfl 25 _ rfl w.heap.size 0 rfl (mc M) _ (hB_17) 98 F2.out _ Try.underlying25 rfl size_lmach ?_; rw [F1.out]) | (go_at_call 14; refine (markInt64S_x g0 _ 1 mr _ _ f_g0_16 Hlen.out (by omega) Hmr.out).mono ?_; rintro e w17 ⟨rfl, mk_g0, hb17, hgs17, hoth17⟩; have hB_17 := hB_16.kept (below_le hb17 (by omega : w.heap.size + 1 ≤ _)) (by omega)))
  clear f_g0_16
  have hbw17 := hbw16.trans (below_le hb17 (by omega))
  have f_vs_17 := f_vs_16.other hoth17 (fun k hk ha => by have q1 := lt_vs.out k hk; have q2 := lt_g0.out k ha; omega)
  have hA1_17 := (Ha.out.1).below hbw17
  have hA2_17 := (Ha.out.2).below hbw17
  have hsz17 := hgs17
  clear hB_16 hbw16 f_vs_16 hA1_16 hA2_16
  have f_gm_17 := mk_g0
  go_wp2_with (first | (with_reducible show wpList _ _ _ _ _ _; refine wpList_load_blk rfl 25 _ rfl w.heap.size 0 rfl (mc M) _ (hB_17) 98 F2.out _ Try.underlying25 rfl size_lmach ?_; rw [F1.out]) | (go_at_call 15; refine (heldInt64S_m g0 _ 1 _ mr _ f_gm_17 Hlen.out (by omega) Hmr.out).mono ?_; rintro e w' ⟨rfl, rfl⟩))
  go_wp2_with (first | (with_reducible show wpList _ _ _ _ _ _; refine wpList_load_blk rfl 25 _ rfl w.heap.size 0 rfl (mc M) _ (hB_17) 98 F2.out _ Try.underlying25 rfl size_lmach ?_; rw [F1.out]) | (go_at_call 8; refine (toMachine_calls M hok _).mono ?_; rintro e w18 ⟨rfl, hb18⟩; have hB_18 := hB_17.keptAll hb18))
  have hbw18 := below_step hbw17 hb18
  have f_vs_18 := f_vs_17.below hb18
  have f_gm_18 := f_gm_17.below hb18
  have hA1_18 := hA1_17.below hb18
  have hA2_18 := hA2_17.below hb18
  have hsz18 := hb18.size
  clear hB_17 hbw17 f_vs_17 f_gm_17 hA1_17 hA2_17
  go_wp2_with (first | (with_reducible show wpList _ _ _ _ _ _; refine wpList_load_blk rfl 25 _ rfl w.heap.size 0 rfl (mc M) _ (hB_20) 98 F2.out _ Try.underlying25 rfl size_lmach ?_; rw [F1.out]) | (go_at_call 9; first | (refine (toInt64S_calls _ zs2 _ hA2_19 hn2).mono ?_; rintro e w20 ⟨vc2, rfl, g_vc2, hb20⟩; have hB_20 := hB_19.keptAll hb20) | (refine (toInt64S_calls _ zs1 _ hA1_18 hn1).mono ?_; rintro e w19 ⟨vc1, rfl, g_vc1, hb19⟩; have hB_19 := hB_18.keptAll hb19; have hbw19 := below_step hbw18 hb19; have f_vs_19 := f_vs_18.below hb19; have f_gm_19 := f_gm_18.below hb19; have hA1_19 := hA1_18.below hb19; have hA2_19 := hA2_18.below hb19; have hsz19 := hb19.size; clear hB_18 hbw18 f_vs_18 f_gm_18 hA1_18 hA2_18; have f_vc1_19 := g_vc1; have lt_vc1 := Lib.hid (World.ownsRow.lt g_vc1); clear g_vc1)))
  have hbw20 := below_step hbw19 hb20
  have f_vs_20 := f_vs_19.below hb20
  have f_gm_20 := f_gm_19.below hb20
  have f_vc1_20 := f_vc1_19.below hb20
  have hA1_20 := hA1_19.below hb20
  have hA2_20 := hA2_19.below hb20
  have hsz20 := hb20.size
  clear hB_19 hbw19 f_vs_19 f_gm_19 f_vc1_19 hA1_19 hA2_19
  have f_vc2_20 := g_vc2
  have lt_vc2 := Lib.hid (World.ownsRow.lt g_vc2); clear g_vc2
  go_wp2_with (first | (with_reducible show wpList _ _ _ _ _ _; refine wpList_load_blk rfl 25 _ rfl w.heap.size 0 rfl (mc M) _ (hB_21) 98 F2.out _ Try.underlying25 rfl size_lmach ?_; rw [F1.out]) | (go_at_call 13; refine (iMultiplyWords_calls M hok vc1 zs1 vc2 zs2 _ f_vc1_20.sees f_vc2_20.sees).mono ?_; rintro e w21 ⟨h0, rfl, g_h0, hb21⟩; have hB_21 := hB_20.keptAll hb21))
  have hbw21 := below_step hbw20 hb21
  have f_vs_21 := f_vs_20.below hb21
  have f_gm_21 := f_gm_20.below hb21
  have f_vc1_21 := f_vc1_20.below hb21
  have f_vc2_21 := f_vc2_20.below hb21
  have hA1_21 := hA1_20.below hb21
  have hA2_21 := hA2_20.below hb21
  have hsz21 := hb21.size
  clear hB_20 hbw20 f_vs_20 f_gm_20 f_vc1_20 f_vc2_20 hA1_20 hA2_20
  have f_h0_21 := g_h0
  have lt_h0 := Lib.hid (World.ownsRow.lt g_h0); clear g_h0
  clear f_vc1_21 lt_vc1
  clear f_vc2_21 lt_vc2
  go_wp2_with (first | (with_reducible show wpList _ _ _ _ _ _; refine wpList_load_blk rfl 25 _ rfl w.heap.size 0 rfl (mc M) _ (hB_22) 98 F2.out _ Try.underlying25 rfl size_lmach ?_; rw [F1.out]) | (go_at_call 11; refine (eqInt64S_same h0 vs _ _ _ _ f_h0_21 f_vs_21).mono ?_; rintro e w22 ⟨rfl, hb22⟩; have hB_22 := hB_21.keptAll hb22))
  have hbw22 := below_step hbw21 hb22
  have f_vs_22 := f_vs_21.below hb22
  have f_gm_22 := f_gm_21.below hb22
  have f_h0_22 := f_h0_21.below hb22
  have hA1_22 := hA1_21.below hb22
  have hA2_22 := hA2_21.below hb22
  have hsz22 := hb22.size
  clear hB_21 hbw21 f_vs_21 f_gm_21 f_h0_21 hA1_21 hA2_21
  go_wp2_with (first | (with_reducible show wpList _ _ _ _ _ _; refine wpList_load_blk rfl 25 _ rfl w.heap.size 0 rfl (mc M) _ (hB_22) 98 F2.out _ Try.underlying25 rfl size_lmach ?_; rw [F1.out]) | (go_at_call 15; refine (heldInt64S_m g0 _ 1 _ mr _ f_gm_22 Hlen.out (by omega) Hmr.out).mono ?_; rintro e w' ⟨rfl, rfl⟩))
  go_ret
  exact ⟨rfl, hbw22⟩
end Go.Proofs.Ytlclhjpnnlgjfaa
