/- The statement on 'PortraitOfPermutation', walked: equal, of its own memory, and again. Written by genlaw.py. -/
import Derived.Test.YtgeihpaealomkaaDoorMarks
import Derived.Test.YtgeihpaealomkaaDoorConv
import Derived.Test.YtgeihpaealomkaaDoorLL
import Derived.Test.YtgeihpaealomkaaDoorPo
namespace Go.Proofs.YtgeihpaealomkaaDoor
open Go.RowKit

set_option linter.unusedVariables false in
set_option maxRecDepth 100000 in
set_option maxHeartbeats 4000000 in
theorem lawPortraitOfPermutation (k1 : Int) (hk1 : (Lit.int .i64 k1).wf = true) (k2 : Int) (hk2 : (Lit.int .i64 k2).wf = true) (v3 : Value) (zs3 : List Int) (w : World) (ha3 : ArgI w v3 zs3) (hT : TabsAt w) :
    Calls Tryd.prog 7 #[.int .i64 k1, .int .i64 k2, v3] w fun e w' => e = .returned (.bool true) ∧ Below w.heap.size w w' := by
  obtain ⟨oa3, ca3, rfl, hb03⟩ := ha3.2; clear hb03
  by_cases hn3 : zs3.length ≤ 1048576
  rotate_left
  · have hf3 : 1048576 < (zs3.length : Int) := by omega
    go_enter Tryd.func7, Tryd.ntmps7
    go_wp2
    go_ret
    exact ⟨rfl, by (repeat (first | exact Below.refl _ _ | refine below_drew' ?_ | refine below_drewN' ?_ _ | refine below_alloc' ?_ _ | refine below_set' ?_ (by (try simp); (try omega)) _ | refine below_step ?_ (by assumption)))⟩
  have hf3 : ¬ (1048576 < (zs3.length : Int)) := by omega
  have Hlen1 := Lib.hid (show (poL k1 k2 zs3).length ≤ 100000 from poL_len k1 k2 zs3)
  obtain ⟨m3, hm3⟩ : ∃ m : Nat, 1 + zs3.length = m := ⟨_, rfl⟩
  have hml3 : m3 ≤ 1048577 := by omega
  have hm0 : ¬ ((m3 : Int) < 0) := by omega
  obtain ⟨mr1, hmr1⟩ : ∃ m : Nat, 1 + (poL k1 k2 zs3).length = m := ⟨_, rfl⟩
  have hmr10 : ¬ ((mr1 : Int) < 0) := by omega
  have hmr1b : mr1 ≤ 100001 := by have := Hlen1.out; omega
  have Hmr1 := Lib.hid hmr1; clear hmr1
  have Hm3 := Lib.hid hm3; clear hm3
  have hbw0 : Below w.heap.size w w := Below.refl _ _
  have HT := Lib.hid hT; clear hT
  have hA3_0 := ha3.below hbw0
  have Ha := Lib.hid (ha3)
  clear ha3
  go_enter Tryd.func7, Tryd.ntmps7
  go_wp2_with (first | (go_at_call 17; refine (toInt64S_calls _ zs3 _ hA3_0 hn3).mono ?_; rintro e w1 ⟨va3, rfl, g_va3, hb1⟩))
  have hbw1 := below_step hbw0 hb1
  have hA3_1 := hA3_0.below hb1
  have hsz1 := hb1.size
  clear hbw0 hA3_0
  have f_va3_1 := g_va3
  have lt_va3 := Lib.hid (World.ownsRow.lt g_va3); clear g_va3
  go_wp2_with (first | (go_at_call 23; refine (sPortraitOfPermutation_calls k1 k2 va3 zs3 _ f_va3_1.sees).mono ?_; rintro e w2 ⟨p1, rfl, g_p1, hb2⟩))
  have hbw2 := below_step hbw1 hb2
  have f_va3_2 := f_va3_1.below hb2
  have hA3_2 := hA3_1.below hb2
  have hsz2 := hb2.size
  clear hbw1 f_va3_1 hA3_1
  have f_p1_2 := g_p1
  have lt_p1 := Lib.hid (World.ownsRow.lt g_p1); clear g_p1
  clear f_va3_2 lt_va3
  go_wp2_with (first | (go_at_call 17; refine (toInt64S_calls _ zs3 _ hA3_2 hn3).mono ?_; rintro e w3 ⟨x3, rfl, g_x3, hb3⟩))
  have hbw3 := below_step hbw2 hb3
  have f_p1_3 := f_p1_2.below hb3
  have hA3_3 := hA3_2.below hb3
  have hsz3 := hb3.size
  clear hbw2 f_p1_2 hA3_2
  have f_x3_3 := g_x3
  have lt_x3 := Lib.hid (World.ownsRow.lt g_x3); clear g_x3
  go_wp2_with (first | (go_at_call 24; refine (iPortraitOfPermutation_calls k1 k2 x3 zs3 _ f_x3_3.sees (HT.out.below hbw3)).mono ?_; rintro e w4 ⟨g1, rfl, g_g1, hb4⟩))
  have hbw4 := below_step hbw3 hb4
  have f_p1_4 := f_p1_3.below hb4
  have f_x3_4 := f_x3_3.below hb4
  have hA3_4 := hA3_3.below hb4
  have hsz4 := hb4.size
  clear hbw3 f_p1_3 f_x3_3 hA3_3
  have f_g1_4 := g_g1
  have lt_g1 := Lib.hid (World.ownsRow.lt g_g1); clear g_g1
  go_wp2_with (first | (go_at_call 13; refine (eqInt64S_same g1 p1 _ _ _ _ f_g1_4 f_p1_4).mono ?_; rintro e w5 ⟨rfl, hb5⟩))
  have hbw5 := below_step hbw4 hb5
  have f_p1_5 := f_p1_4.below hb5
  have f_x3_5 := f_x3_4.below hb5
  have f_g1_5 := f_g1_4.below hb5
  have hA3_5 := hA3_4.below hb5
  have hsz5 := hb5.size
  clear hbw4 f_p1_4 f_x3_4 f_g1_4 hA3_4
  go_wp2_with (first | (go_at_call 17; refine (toInt64S_calls _ zs3 _ hA3_5 hn3).mono ?_; rintro e w6 ⟨vb3, rfl, g_vb3, hb6⟩))
  have hbw6 := below_step hbw5 hb6
  have f_p1_6 := f_p1_5.below hb6
  have f_x3_6 := f_x3_5.below hb6
  have f_g1_6 := f_g1_5.below hb6
  have hA3_6 := hA3_5.below hb6
  have hsz6 := hb6.size
  clear hbw5 f_p1_5 f_x3_5 f_g1_5 hA3_5
  have f_vb3_6 := g_vb3
  have lt_vb3 := Lib.hid (World.ownsRow.lt g_vb3); clear g_vb3
  go_wp2_with (first | (go_at_call 13; refine (eqInt64S_same x3 vb3 _ _ _ _ f_x3_6 f_vb3_6).mono ?_; rintro e w7 ⟨rfl, hb7⟩))
  have hbw7 := below_step hbw6 hb7
  have f_p1_7 := f_p1_6.below hb7
  have f_x3_7 := f_x3_6.below hb7
  have f_g1_7 := f_g1_6.below hb7
  have f_vb3_7 := f_vb3_6.below hb7
  have hA3_7 := hA3_6.below hb7
  have hsz7 := hb7.size
  clear hbw6 f_p1_6 f_x3_6 f_g1_6 f_vb3_6 hA3_6
  clear f_vb3_7 lt_vb3
  go_wp2_with (first | (go_at_call 14; refine (markInt64S_x x3 _ 1 m3 _ _ f_x3_7 (by omega) (by omega) Hm3.out).mono ?_; rintro e w8 ⟨rfl, mk_x3, hb8, hgs8, hoth8⟩))
  clear f_x3_7
  have hbw8 := hbw7.trans (below_le hb8 (by omega))
  have f_p1_8 := OwnI.other f_p1_7 hoth8 (fun k hk ha => by have q1 := lt_p1.out k hk; have q2 := lt_x3.out k ha; omega)
  have f_g1_8 := OwnI.other f_g1_7 hoth8 (fun k hk ha => by have q1 := lt_g1.out k hk; have q2 := lt_x3.out k ha; omega)
  have hA3_8 := (Ha.out).below hbw8
  have hsz8 := hgs8
  clear hbw7 f_p1_7 f_g1_7 hA3_7
  go_wp2_with (first | (go_at_call 13; refine (eqInt64S_same g1 p1 _ _ _ _ f_g1_8 f_p1_8).mono ?_; rintro e w9 ⟨rfl, hb9⟩))
  have hbw9 := below_step hbw8 hb9
  have f_p1_9 := f_p1_8.below hb9
  have f_g1_9 := f_g1_8.below hb9
  have hA3_9 := hA3_8.below hb9
  have hsz9 := hb9.size
  clear hbw8 f_p1_8 f_g1_8 hA3_8
  go_wp2_with (first | (go_at_call 14; refine (markInt64S_x g1 _ 1 mr1 _ _ f_g1_9 (by have := Hlen1.out; omega) (by omega) Hmr1.out).mono ?_; rintro e w10 ⟨rfl, mk_g1, hb10, hgs10, hoth10⟩))
  clear f_g1_9
  have hbw10 := hbw9.trans (below_le hb10 (by omega))
  have f_p1_10 := OwnI.other f_p1_9 hoth10 (fun k hk ha => by have q1 := lt_p1.out k hk; have q2 := lt_g1.out k ha; omega)
  have hA3_10 := (Ha.out).below hbw10
  have hsz10 := hgs10
  clear hbw9 f_p1_9 hA3_9
  have f_gm1_10 := mk_g1; clear mk_g1
  go_wp2_with (first | (go_at_call 15; refine (heldInt64S_m g1 _ 1 _ mr1 _ f_gm1_10 (by have := Hlen1.out; omega) (by omega) Hmr1.out).mono ?_; rintro e w' ⟨rfl, rfl⟩))
  go_wp2_with (first | (go_at_call 17; refine (toInt64S_calls _ zs3 _ hA3_10 hn3).mono ?_; rintro e w11 ⟨vc3, rfl, g_vc3, hb11⟩))
  have hbw11 := below_step hbw10 hb11
  have f_p1_11 := f_p1_10.below hb11
  have f_gm1_11 := f_gm1_10.below hb11
  have hA3_11 := hA3_10.below hb11
  have hsz11 := hb11.size
  clear hbw10 f_p1_10 f_gm1_10 hA3_10
  have f_vc3_11 := g_vc3
  have lt_vc3 := Lib.hid (World.ownsRow.lt g_vc3); clear g_vc3
  go_wp2_with (first | (go_at_call 24; refine (iPortraitOfPermutation_calls k1 k2 vc3 zs3 _ f_vc3_11.sees (HT.out.below hbw11)).mono ?_; rintro e w12 ⟨h1, rfl, g_h1, hb12⟩))
  have hbw12 := below_step hbw11 hb12
  have f_p1_12 := f_p1_11.below hb12
  have f_gm1_12 := f_gm1_11.below hb12
  have f_vc3_12 := f_vc3_11.below hb12
  have hA3_12 := hA3_11.below hb12
  have hsz12 := hb12.size
  clear hbw11 f_p1_11 f_gm1_11 f_vc3_11 hA3_11
  have f_h1_12 := g_h1
  have lt_h1 := Lib.hid (World.ownsRow.lt g_h1); clear g_h1
  clear f_vc3_12 lt_vc3
  go_wp2_with (first | (go_at_call 13; refine (eqInt64S_same h1 p1 _ _ _ _ f_h1_12 f_p1_12).mono ?_; rintro e w13 ⟨rfl, hb13⟩))
  have hbw13 := below_step hbw12 hb13
  have f_p1_13 := f_p1_12.below hb13
  have f_gm1_13 := f_gm1_12.below hb13
  have f_h1_13 := f_h1_12.below hb13
  have hA3_13 := hA3_12.below hb13
  have hsz13 := hb13.size
  clear hbw12 f_p1_12 f_gm1_12 f_h1_12 hA3_12
  go_wp2_with (first | (go_at_call 15; refine (heldInt64S_m g1 _ 1 _ mr1 _ f_gm1_13 (by have := Hlen1.out; omega) (by omega) Hmr1.out).mono ?_; rintro e w' ⟨rfl, rfl⟩))
  go_ret
  exact ⟨rfl, hbw13⟩
end Go.Proofs.YtgeihpaealomkaaDoor
