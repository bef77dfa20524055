/- The statement on 'WreathOf', walked: equal, of its own memory, and again. Written by genlaw.py. -/
import Derived.Test.YticnplcjjkilpaaMarks
import Derived.Test.YticnplcjjkilpaaConv
import Derived.Test.YticnplcjjkilpaaLL
import Derived.Test.YticnplcjjkilpaaWrI
namespace Go.Proofs.Yticnplcjjkilpaa
open Go.RowKit

set_option linter.unusedVariables false in
set_option maxRecDepth 100000 in
set_option maxHeartbeats 4000000 in
theorem lawWreathOf (M : Mach) (hok : M.Ok) (v1 : Value) (zs1 : List Int) (w : World) (ha1 : ArgI w v1 zs1) :
    Calls Try.prog 4 #[.agg (mc M), v1] w fun e w' => e = .returned (.bool true) ∧ Below w.heap.size w w' := by
  obtain ⟨oa1, ca1, rfl, hb01⟩ := ha1.2; clear hb01
  by_cases hn1 : zs1.length ≤ 1048576
  rotate_left
  · have hf1 : 1048576 < (zs1.length : Int) := by omega
    go_enter Try.func4, Try.ntmps4
    go_wp2
    go_ret
    exact ⟨rfl, by (repeat (first | exact Below.refl _ _ | refine below_drew' ?_ | refine below_drewN' ?_ _ | refine below_alloc' ?_ _ | refine below_set' ?_ (by (try simp); (try omega)) _ | refine below_step ?_ (by assumption)))⟩
  have hf1 : ¬ (1048576 < (zs1.length : Int)) := by omega
  have F1 : Hid (cut (mc M) 0 98 = mc M) := Lib.hid (cut_all _ _ (mc_size hok)); have F2 : Hid (0 + 98 ≤ (mc M).size) := Lib.hid (by rw [mc_size hok]; omega)
  have hB : Blk (w.alloc (.cells (mc M) 25)) w.heap.size (mc M) 25 := Blk.new w _ _
  have Hlen1 := Lib.hid (show (wrI M zs1).length ≤ 100000 from wrI_len hok zs1)
  have Hlen2 := Lib.hid (show (wrS M zs1).length ≤ 100000 ∧ offs (wrS M zs1) (wrS M zs1).length ≤ 100000 from wrS_len hok zs1)
  obtain ⟨m1, hm1⟩ : ∃ m : Nat, 1 + zs1.length = m := ⟨_, rfl⟩
  have hml1 : m1 ≤ 1048577 := by omega
  have hm0 : ¬ ((m1 : Int) < 0) := by omega
  obtain ⟨mr1, hmr1⟩ : ∃ m : Nat, 1 + (wrI M zs1).length = m := ⟨_, rfl⟩
  have hmr10 : ¬ ((mr1 : Int) < 0) := by omega
  have hmr1b : mr1 ≤ 100001 := by have := Hlen1.out; omega
  obtain ⟨mr2, hmr2⟩ : ∃ m : Nat, mr1 + offs (wrS M zs1) (wrS M zs1).length = m := ⟨_, rfl⟩
  have hmr20 : ¬ ((mr2 : Int) < 0) := by omega
  have hmr2b : mr2 ≤ 200001 := by have := Hlen2.out; omega
  have Hmr1 := Lib.hid hmr1; clear hmr1
  have Hmr2 := Lib.hid hmr2; clear hmr2
  have Hm1 := Lib.hid hm1; clear hm1
  have hbw0 : Below w.heap.size w (w.alloc (.cells (mc M) 25)) := by (repeat (first | exact Below.refl _ _ | refine below_drew' ?_ | refine below_drewN' ?_ _ | refine below_alloc' ?_ _ | refine below_set' ?_ (by (try simp); (try omega)) _ | refine below_step ?_ (by assumption)))
  have hA1_0 := ha1.below hbw0
  have Ha := Lib.hid (ha1)
  clear ha1
  go_enter Try.func4, Try.ntmps4
  have hB_0 := hB; clear hB
  have hs0 : (w.alloc (.cells (mc M) 25)).heap.size = w.heap.size + 1 := by simp
  go_wp2_with (first | (with_reducible show wpList _ _ _ _ _ _; refine wpList_load_blk rfl 25 _ rfl w.heap.size 0 rfl (mc M) _ (hB_0) 98 F2.out _ Try.underlying25 rfl size_lmach ?_; rw [F1.out]) | (go_at_call 9; refine (toMachine_calls M hok _).mono ?_; rintro e w1 ⟨rfl, hb1⟩; have hB_1 := hB_0.keptAll hb1))
  have hbw1 := below_step hbw0 hb1
  have hA1_1 := hA1_0.below hb1
  have hsz1 := hb1.size
  clear hB_0 hbw0 hA1_0
  go_wp2_with (first | (with_reducible show wpList _ _ _ _ _ _; refine wpList_load_blk rfl 25 _ rfl w.heap.size 0 rfl (mc M) _ (hB_2) 98 F2.out _ Try.underlying25 rfl size_lmach ?_; rw [F1.out]) | (go_at_call 10; refine (toInt64S_calls _ zs1 _ hA1_1 hn1).mono ?_; rintro e w2 ⟨va1, rfl, g_va1, hb2⟩; have hB_2 := hB_1.keptAll hb2))
  have hbw2 := below_step hbw1 hb2
  have hA1_2 := hA1_1.below hb2
  have hsz2 := hb2.size
  clear hB_1 hbw1 hA1_1
  have f_va1_2 := g_va1
  have lt_va1 := Lib.hid (World.ownsRow.lt g_va1); clear g_va1
  go_wp2_with (first | (with_reducible show wpList _ _ _ _ _ _; refine wpList_load_blk rfl 25 _ rfl w.heap.size 0 rfl (mc M) _ (hB_3) 98 F2.out _ Try.underlying25 rfl size_lmach ?_; rw [F1.out]) | (go_at_call 15; refine (sWreathOf_calls M hok va1 zs1 _ f_va1_2.sees).mono ?_; rintro e w3 ⟨p1, p2, P2, rfl, g_p1, g_p2, ap_p_12, hb3⟩; have hB_3 := hB_2.keptAll hb3))
  have hbw3 := below_step hbw2 hb3
  have f_va1_3 := f_va1_2.below hb3
  have hA1_3 := hA1_2.below hb3
  have hsz3 := hb3.size
  clear hB_2 hbw2 f_va1_2 hA1_2
  clear ap_p_12
  have f_p1_3 := g_p1
  have lt_p1 := Lib.hid (World.ownsRow.lt g_p1); clear g_p1
  have f_p2_3 := g_p2
  have lt_p2 := Lib.hid (OwnLV.lt g_p2); clear g_p2
  clear f_va1_3 lt_va1
  go_wp2_with (first | (with_reducible show wpList _ _ _ _ _ _; refine wpList_load_blk rfl 25 _ rfl w.heap.size 0 rfl (mc M) _ (hB_4) 98 F2.out _ Try.underlying25 rfl size_lmach ?_; rw [F1.out]) | (go_at_call 10; refine (toInt64S_calls _ zs1 _ hA1_3 hn1).mono ?_; rintro e w4 ⟨x1, rfl, g_x1, hb4⟩; have hB_4 := hB_3.keptAll hb4))
  have hbw4 := below_step hbw3 hb4
  have f_p1_4 := f_p1_3.below hb4
  have f_p2_4 := f_p2_3.below hb4
  have hA1_4 := hA1_3.below hb4
  have hsz4 := hb4.size
  clear hB_3 hbw3 f_p1_3 f_p2_3 hA1_3
  have f_x1_4 := g_x1
  have lt_x1 := Lib.hid (World.ownsRow.lt g_x1); clear g_x1
  go_wp2_with (first | (with_reducible show wpList _ _ _ _ _ _; refine wpList_load_blk rfl 25 _ rfl w.heap.size 0 rfl (mc M) _ (hB_4) 98 F2.out _ Try.underlying25 rfl size_lmach ?_; rw [F1.out]) | (go_at_call 9; refine (toMachine_calls M hok _).mono ?_; rintro e w5 ⟨rfl, hb5⟩; have hB_5 := hB_4.keptAll hb5))
  have hbw5 := below_step hbw4 hb5
  have f_p1_5 := f_p1_4.below hb5
  have f_p2_5 := f_p2_4.below hb5
  have f_x1_5 := f_x1_4.below hb5
  have hA1_5 := hA1_4.below hb5
  have hsz5 := hb5.size
  clear hB_4 hbw4 f_p1_4 f_p2_4 f_x1_4 hA1_4
  go_wp2_with (first | (with_reducible show wpList _ _ _ _ _ _; refine wpList_load_blk rfl 25 _ rfl w.heap.size 0 rfl (mc M) _ (hB_6) 98 F2.out _ Try.underlying25 rfl size_lmach ?_; rw [F1.out]) | (go_at_call 16; refine (iWreathOf_calls M hok x1 zs1 _ f_x1_5.sees).mono ?_; rintro e w6 ⟨g1, g2, G2, rfl, g_g1, g_g2, ap_g_12, hb6⟩; have hB_6 := hB_5.keptAll hb6))
  have hbw6 := below_step hbw5 hb6
  have f_p1_6 := f_p1_5.below hb6
  have f_p2_6 := f_p2_5.below hb6
  have f_x1_6 := f_x1_5.below hb6
  have hA1_6 := hA1_5.below hb6
  have hsz6 := hb6.size
  clear hB_5 hbw5 f_p1_5 f_p2_5 f_x1_5 hA1_5
  have Ap12 := Lib.hid ap_g_12
  clear ap_g_12
  have f_g1_6 := g_g1
  have lt_g1 := Lib.hid (World.ownsRow.lt g_g1); clear g_g1
  have f_g2_6 := g_g2
  have lt_g2 := Lib.hid (OwnLV.lt g_g2); clear g_g2
  go_wp2_with (first | (with_reducible show wpList _ _ _ _ _ _; refine wpList_load_blk rfl 25 _ rfl w.heap.size 0 rfl (mc M) _ (hB_7) 98 F2.out _ Try.underlying25 rfl size_lmach ?_; rw [F1.out]) | (go_at_call 12; refine (eqInt64S_same g1 p1 _ _ _ _ f_g1_6 f_p1_6).mono ?_; rintro e w7 ⟨rfl, hb7⟩; have hB_7 := hB_6.keptAll hb7))
  have hbw7 := below_step hbw6 hb7
  have f_p1_7 := f_p1_6.below hb7
  have f_p2_7 := f_p2_6.below hb7
  have f_x1_7 := f_x1_6.below hb7
  have f_g1_7 := f_g1_6.below hb7
  have f_g2_7 := f_g2_6.below hb7
  have hA1_7 := hA1_6.below hb7
  have hsz7 := hb7.size
  clear hB_6 hbw6 f_p1_6 f_p2_6 f_x1_6 f_g1_6 f_g2_6 hA1_6
  go_wp2_with (first | (with_reducible show wpList _ _ _ _ _ _; refine wpList_load_blk rfl 25 _ rfl w.heap.size 0 rfl (mc M) _ (hB_8) 98 F2.out _ Try.underlying25 rfl size_lmach ?_; rw [F1.out]) | (go_at_call 17; refine (eqInt64SS_same g2 p2 _ _ _ _ _ _ f_g2_7 f_p2_7).mono ?_; rintro e w8 ⟨rfl, hb8⟩; have hB_8 := hB_7.keptAll hb8))
  have hbw8 := below_step hbw7 hb8
  have f_p1_8 := f_p1_7.below hb8
  have f_p2_8 := f_p2_7.below hb8
  have f_x1_8 := f_x1_7.below hb8
  have f_g1_8 := f_g1_7.below hb8
  have f_g2_8 := f_g2_7.below hb8
  have hA1_8 := hA1_7.below hb8
  have hsz8 := hb8.size
  clear hB_7 hbw7 f_p1_7 f_p2_7 f_x1_7 f_g1_7 f_g2_7 hA1_7
  go_wp2_with (first | (with_reducible show wpList _ _ _ _ _ _; refine wpList_load_blk rfl 25 _ rfl w.heap.size 0 rfl (mc M) _ (hB_9) 98 F2.out _ Try.underlying25 rfl size_lmach ?_; rw [F1.out]) | (go_at_call 10; refine (toInt64S_calls _ zs1 _ hA1_8 hn1).mono ?_; rintro e w9 ⟨vb1, rfl, g_vb1, hb9⟩; have hB_9 := hB_8.keptAll hb9))
  have hbw9 := below_step hbw8 hb9
  have f_p1_9 := f_p1_8.below hb9
  have f_p2_9 := f_p2_8.below hb9
  have f_x1_9 := f_x1_8.below hb9
  have f_g1_9 := f_g1_8.below hb9
  have f_g2_9 := f_g2_8.below hb9
  have hA1_9 := hA1_8.below hb9
  have hsz9 := hb9.size
  clear hB_8 hbw8 f_p1_8 f_p2_8 f_x1_8 f_g1_8 f_g2_8 hA1_8
  have f_vb1_9 := g_vb1
  have lt_vb1 := Lib.hid (World.ownsRow.lt g_vb1); clear g_vb1
  go_wp2_with (first | (with_reducible show wpList _ _ _ _ _ _; refine wpList_load_blk rfl 25 _ rfl w.heap.size 0 rfl (mc M) _ (hB_10) 98 F2.out _ Try.underlying25 rfl size_lmach ?_; rw [F1.out]) | (go_at_call 12; refine (eqInt64S_same x1 vb1 _ _ _ _ f_x1_9 f_vb1_9).mono ?_; rintro e w10 ⟨rfl, hb10⟩; have hB_10 := hB_9.keptAll hb10))
  have hbw10 := below_step hbw9 hb10
  have f_p1_10 := f_p1_9.below hb10
  have f_p2_10 := f_p2_9.below hb10
  have f_x1_10 := f_x1_9.below hb10
  have f_g1_10 := f_g1_9.below hb10
  have f_g2_10 := f_g2_9.below hb10
  have f_vb1_10 := f_vb1_9.below hb10
  have hA1_10 := hA1_9.below hb10
  have hsz10 := hb10.size
  clear hB_9 hbw9 f_p1_9 f_p2_9 f_x1_9 f_g1_9 f_g2_9 f_vb1_9 hA1_9
  clear f_vb1_10 lt_vb1
  go_wp2_with (first | (with_reducible show wpList _ _ _ _ _ _; refine wpList_load_blk rfl 25 _ rfl w.heap.size 0 rfl (mc M) _ (hB_11) 98 F2.out _ Try.underlying25 rfl size_lmach ?_; rw [F1.out]) | (go_at_call 13; refine (markInt64S_x x1 _ 1 m1 _ _ f_x1_10 (by omega) (by omega) Hm1.out).mono ?_; rintro e w11 ⟨rfl, mk_x1, hb11, hgs11, hoth11⟩; have hB_11 := hB_10.kept (below_le hb11 (by omega : w.heap.size + 1 ≤ _)) (by omega)))
  clear f_x1_10
  have hbw11 := hbw10.trans (below_le hb11 (by omega))
  have f_p1_11 := OwnI.other f_p1_10 hoth11 (fun k hk ha => by have q1 := lt_p1.out k hk; have q2 := lt_x1.out k ha; omega)
  have f_p2_11 := OwnLV.other f_p2_10 hoth11 (fun k hk ha => by have q1 := lt_p2.out k hk; have q2 := lt_x1.out k ha; omega)
  have f_g1_11 := OwnI.other f_g1_10 hoth11 (fun k hk ha => by have q1 := lt_g1.out k hk; have q2 := lt_x1.out k ha; omega)
  have f_g2_11 := OwnLV.other f_g2_10 hoth11 (fun k hk ha => by have q1 := lt_g2.out k hk; have q2 := lt_x1.out k ha; omega)
  have hA1_11 := (Ha.out).below hbw11
  have hsz11 := hgs11
  clear hB_10 hbw10 f_p1_10 f_p2_10 f_g1_10 f_g2_10 hA1_10
  go_wp2_with (first | (with_reducible show wpList _ _ _ _ _ _; refine wpList_load_blk rfl 25 _ rfl w.heap.size 0 rfl (mc M) _ (hB_12) 98 F2.out _ Try.underlying25 rfl size_lmach ?_; rw [F1.out]) | (go_at_call 12; refine (eqInt64S_same g1 p1 _ _ _ _ f_g1_11 f_p1_11).mono ?_; rintro e w12 ⟨rfl, hb12⟩; have hB_12 := hB_11.keptAll hb12))
  have hbw12 := below_step hbw11 hb12
  have f_p1_12 := f_p1_11.below hb12
  have f_p2_12 := f_p2_11.below hb12
  have f_g1_12 := f_g1_11.below hb12
  have f_g2_12 := f_g2_11.below hb12
  have hA1_12 := hA1_11.below hb12
  have hsz12 := hb12.size
  clear hB_11 hbw11 f_p1_11 f_p2_11 f_g1_11 f_g2_11 hA1_11
  go_wp2_with (first | (with_reducible show wpList _ _ _ _ _ _; refine wpList_load_blk rfl 25 _ rfl w.heap.size 0 rfl (mc M) _ (hB_13) 98 F2.out _ Try.underlying25 rfl size_lmach ?_; rw [F1.out]) | (go_at_call 17; refine (eqInt64SS_same g2 p2 _ _ _ _ _ _ f_g2_12 f_p2_12).mono ?_; rintro e w13 ⟨rfl, hb13⟩; have hB_13 := hB_12.keptAll hb13))
  have hbw13 := below_step hbw12 hb13
  have f_p1_13 := f_p1_12.below hb13
  have f_p2_13 := f_p2_12.below hb13
  have f_g1_13 := f_g1_12.below hb13
  have f_g2_13 := f_g2_12.below hb13
  have hA1_13 := hA1_12.below hb13
  have hsz13 := hb13.size
  clear hB_12 hbw12 f_p1_12 f_p2_12 f_g1_12 f_g2_12 hA1_12
  go_wp2_with (first | (with_reducible show wpList _ _ _ _ _ _; refine wpList_load_blk rfl 25 _ rfl w.heap.size 0 rfl (mc M) _ (hB_14) 98 F2.out _ Try.underlying25 rfl size_lmach ?_; rw [F1.out]) | (go_at_call 13; refine (markInt64S_x g1 _ 1 mr1 _ _ f_g1_13 (by have := Hlen1.out; omega) (by omega) Hmr1.out).mono ?_; rintro e w14 ⟨rfl, mk_g1, hb14, hgs14, hoth14⟩; have hB_14 := hB_13.kept (below_le hb14 (by omega : w.heap.size + 1 ≤ _)) (by omega)))
  clear f_g1_13
  have hbw14 := hbw13.trans (below_le hb14 (by omega))
  have f_p1_14 := OwnI.other f_p1_13 hoth14 (fun k hk ha => by have q1 := lt_p1.out k hk; have q2 := lt_g1.out k ha; omega)
  have f_p2_14 := OwnLV.other f_p2_13 hoth14 (fun k hk ha => by have q1 := lt_p2.out k hk; have q2 := lt_g1.out k ha; omega)
  have f_g2_14 := OwnLV.other f_g2_13 hoth14 (fun k hk ha => Ap12.out k ha hk)
  have hA1_14 := (Ha.out).below hbw14
  have hsz14 := hgs14
  clear hB_13 hbw13 f_p1_13 f_p2_13 f_g2_13 hA1_13
  have f_gm1_14 := mk_g1; clear mk_g1
  go_wp2_with (first | (with_reducible show wpList _ _ _ _ _ _; refine wpList_load_blk rfl 25 _ rfl w.heap.size 0 rfl (mc M) _ (hB_15) 98 F2.out _ Try.underlying25 rfl size_lmach ?_; rw [F1.out]) | (go_at_call 18; refine (markInt64SS_x g2 _ _ mr1 mr2 _ _ f_g2_14 Hlen2.out (by omega) Hmr2.out).mono ?_; rintro e w15 ⟨rfl, mk_g2, hb15, hgs15, hoth15⟩; have hB_15 := hB_14.kept (below_le hb15 (by omega : w.heap.size + 1 ≤ _)) (by omega)))
  clear f_g2_14
  have hbw15 := hbw14.trans (below_le hb15 (by omega))
  have f_p1_15 := OwnI.otherL f_p1_14 hoth15 (fun k hk ha => by have q1 := lt_p1.out k hk; have q2 := lt_g2.out k ha; omega)
  have f_p2_15 := OwnLV.otherL f_p2_14 hoth15 (fun k hk ha => by have q1 := lt_p2.out k hk; have q2 := lt_g2.out k ha; omega)
  have f_gm1_15 := OwnI.otherL f_gm1_14 hoth15 (fun k hk ha => Ap12.out k hk ha)
  have hA1_15 := (Ha.out).below hbw15
  have hsz15 := hgs15
  clear hB_14 hbw14 f_p1_14 f_p2_14 f_gm1_14 hA1_14
  have f_gm2_15 := mk_g2; clear mk_g2
  go_wp2_with (first | (with_reducible show wpList _ _ _ _ _ _; refine wpList_load_blk rfl 25 _ rfl w.heap.size 0 rfl (mc M) _ (hB_15) 98 F2.out _ Try.underlying25 rfl size_lmach ?_; rw [F1.out]) | (go_at_call 14; refine (heldInt64S_m g1 _ 1 _ mr1 _ f_gm1_15 (by have := Hlen1.out; omega) (by omega) Hmr1.out).mono ?_; rintro e w' ⟨rfl, rfl⟩))
  go_wp2_with (first | (with_reducible show wpList _ _ _ _ _ _; refine wpList_load_blk rfl 25 _ rfl w.heap.size 0 rfl (mc M) _ (hB_15) 98 F2.out _ Try.underlying25 rfl size_lmach ?_; rw [F1.out]) | (go_at_call 19; refine (heldInt64SS_m g2 _ _ mr1 mr2 _ _ f_gm2_15 Hlen2.out (by omega) Hmr2.out).mono ?_; rintro e w' ⟨rfl, rfl⟩))
  go_wp2_with (first | (with_reducible show wpList _ _ _ _ _ _; refine wpList_load_blk rfl 25 _ rfl w.heap.size 0 rfl (mc M) _ (hB_15) 98 F2.out _ Try.underlying25 rfl size_lmach ?_; rw [F1.out]) | (go_at_call 9; refine (toMachine_calls M hok _).mono ?_; rintro e w16 ⟨rfl, hb16⟩; have hB_16 := hB_15.keptAll hb16))
  have hbw16 := below_step hbw15 hb16
  have f_p1_16 := f_p1_15.below hb16
  have f_p2_16 := f_p2_15.below hb16
  have f_gm1_16 := f_gm1_15.below hb16
  have f_gm2_16 := f_gm2_15.below hb16
  have hA1_16 := hA1_15.below hb16
  have hsz16 := hb16.size
  clear hB_15 hbw15 f_p1_15 f_p2_15 f_gm1_15 f_gm2_15 hA1_15
  go_wp2_with (first | (with_reducible show wpList _ _ _ _ _ _; refine wpList_load_blk rfl 25 _ rfl w.heap.size 0 rfl (mc M) _ (hB_17) 98 F2.out _ Try.underlying25 rfl size_lmach ?_; rw [F1.out]) | (go_at_call 10; refine (toInt64S_calls _ zs1 _ hA1_16 hn1).mono ?_; rintro e w17 ⟨vc1, rfl, g_vc1, hb17⟩; have hB_17 := hB_16.keptAll hb17))
  have hbw17 := below_step hbw16 hb17
  have f_p1_17 := f_p1_16.below hb17
  have f_p2_17 := f_p2_16.below hb17
  have f_gm1_17 := f_gm1_16.below hb17
  have f_gm2_17 := f_gm2_16.below hb17
  have hA1_17 := hA1_16.below hb17
  have hsz17 := hb17.size
  clear hB_16 hbw16 f_p1_16 f_p2_16 f_gm1_16 f_gm2_16 hA1_16
  have f_vc1_17 := g_vc1
  have lt_vc1 := Lib.hid (World.ownsRow.lt g_vc1); clear g_vc1
  go_wp2_with (first | (with_reducible show wpList _ _ _ _ _ _; refine wpList_load_blk rfl 25 _ rfl w.heap.size 0 rfl (mc M) _ (hB_18) 98 F2.out _ Try.underlying25 rfl size_lmach ?_; rw [F1.out]) | (go_at_call 16; refine (iWreathOf_calls M hok vc1 zs1 _ f_vc1_17.sees).mono ?_; rintro e w18 ⟨h1, h2, H2, rfl, g_h1, g_h2, ap_h_12, hb18⟩; have hB_18 := hB_17.keptAll hb18))
  have hbw18 := below_step hbw17 hb18
  have f_p1_18 := f_p1_17.below hb18
  have f_p2_18 := f_p2_17.below hb18
  have f_gm1_18 := f_gm1_17.below hb18
  have f_gm2_18 := f_gm2_17.below hb18
  have f_vc1_18 := f_vc1_17.below hb18
  have hA1_18 := hA1_17.below hb18
  have hsz18 := hb18.size
  clear hB_17 hbw17 f_p1_17 f_p2_17 f_gm1_17 f_gm2_17 f_vc1_17 hA1_17
  clear ap_h_12
  have f_h1_18 := g_h1
  have lt_h1 := Lib.hid (World.ownsRow.lt g_h1); clear g_h1
  have f_h2_18 := g_h2
  have lt_h2 := Lib.hid (OwnLV.lt g_h2); clear g_h2
  clear f_vc1_18 lt_vc1
  go_wp2_with (first | (with_reducible show wpList _ _ _ _ _ _; refine wpList_load_blk rfl 25 _ rfl w.heap.size 0 rfl (mc M) _ (hB_19) 98 F2.out _ Try.underlying25 rfl size_lmach ?_; rw [F1.out]) | (go_at_call 12; refine (eqInt64S_same h1 p1 _ _ _ _ f_h1_18 f_p1_18).mono ?_; rintro e w19 ⟨rfl, hb19⟩; have hB_19 := hB_18.keptAll hb19))
  have hbw19 := below_step hbw18 hb19
  have f_p1_19 := f_p1_18.below hb19
  have f_p2_19 := f_p2_18.below hb19
  have f_gm1_19 := f_gm1_18.below hb19
  have f_gm2_19 := f_gm2_18.below hb19
  have f_h1_19 := f_h1_18.below hb19
  have f_h2_19 := f_h2_18.below hb19
  have hA1_19 := hA1_18.below hb19
  have hsz19 := hb19.size
  clear hB_18 hbw18 f_p1_18 f_p2_18 f_gm1_18 f_gm2_18 f_h1_18 f_h2_18 hA1_18
  go_wp2_with (first | (with_reducible show wpList _ _ _ _ _ _; refine wpList_load_blk rfl 25 _ rfl w.heap.size 0 rfl (mc M) _ (hB_20) 98 F2.out _ Try.underlying25 rfl size_lmach ?_; rw [F1.out]) | (go_at_call 17; refine (eqInt64SS_same h2 p2 _ _ _ _ _ _ f_h2_19 f_p2_19).mono ?_; rintro e w20 ⟨rfl, hb20⟩; have hB_20 := hB_19.keptAll hb20))
  have hbw20 := below_step hbw19 hb20
  have f_p1_20 := f_p1_19.below hb20
  have f_p2_20 := f_p2_19.below hb20
  have f_gm1_20 := f_gm1_19.below hb20
  have f_gm2_20 := f_gm2_19.below hb20
  have f_h1_20 := f_h1_19.below hb20
  have f_h2_20 := f_h2_19.below hb20
  have hA1_20 := hA1_19.below hb20
  have hsz20 := hb20.size
  clear hB_19 hbw19 f_p1_19 f_p2_19 f_gm1_19 f_gm2_19 f_h1_19 f_h2_19 hA1_19
  go_wp2_with (first | (with_reducible show wpList _ _ _ _ _ _; refine wpList_load_blk rfl 25 _ rfl w.heap.size 0 rfl (mc M) _ (hB_20) 98 F2.out _ Try.underlying25 rfl size_lmach ?_; rw [F1.out]) | (go_at_call 14; refine (heldInt64S_m g1 _ 1 _ mr1 _ f_gm1_20 (by have := Hlen1.out; omega) (by omega) Hmr1.out).mono ?_; rintro e w' ⟨rfl, rfl⟩))
  go_wp2_with (first | (with_reducible show wpList _ _ _ _ _ _; refine wpList_load_blk rfl 25 _ rfl w.heap.size 0 rfl (mc M) _ (hB_20) 98 F2.out _ Try.underlying25 rfl size_lmach ?_; rw [F1.out]) | (go_at_call 19; refine (heldInt64SS_m g2 _ _ mr1 mr2 _ _ f_gm2_20 Hlen2.out (by omega) Hmr2.out).mono ?_; rintro e w' ⟨rfl, rfl⟩))
  go_ret
  exact ⟨rfl, hbw20⟩
end Go.Proofs.Yticnplcjjkilpaa
