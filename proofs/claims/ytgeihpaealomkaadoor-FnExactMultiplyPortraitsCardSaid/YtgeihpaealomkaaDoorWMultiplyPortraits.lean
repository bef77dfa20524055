/- The statement on 'MultiplyPortraits', walked: equal, of its own memory, and again. Written by genlaw.py. -/
import Derived.Test.YtgeihpaealomkaaDoorMarks
import Derived.Test.YtgeihpaealomkaaDoorConv
import Derived.Test.YtgeihpaealomkaaDoorLL
import Derived.Test.YtgeihpaealomkaaDoorMuP
namespace Go.Proofs.YtgeihpaealomkaaDoor
open Go.RowKit

set_option linter.unusedVariables false in
set_option maxRecDepth 100000 in
set_option maxHeartbeats 4000000 in
theorem lawMultiplyPortraits (k1 : Int) (hk1 : (Lit.int .i64 k1).wf = true) (k2 : Int) (hk2 : (Lit.int .i64 k2).wf = true) (v3 : Value) (zs3 : List Int) (v4 : Value) (zs4 : List Int) (w : World) (ha3 : ArgI w v3 zs3) (ha4 : ArgI w v4 zs4) (hT : TabsAt w) :
    Calls Tryd.prog 4 #[.int .i64 k1, .int .i64 k2, v3, v4] w fun e w' => e = .returned (.bool true) ∧ Below w.heap.size w w' := by
  obtain ⟨oa3, ca3, rfl, hb03⟩ := ha3.2; clear hb03
  obtain ⟨oa4, ca4, rfl, hb04⟩ := ha4.2; clear hb04
  by_cases hn3 : zs3.length ≤ 1048576
  rotate_left
  · have hf3 : 1048576 < (zs3.length : Int) := by omega
    go_enter Tryd.func4, Tryd.ntmps4
    go_wp2
    go_ret
    exact ⟨rfl, by (repeat (first | exact Below.refl _ _ | refine below_drew' ?_ | refine below_drewN' ?_ _ | refine below_alloc' ?_ _ | refine below_set' ?_ (by (try simp); (try omega)) _ | refine below_step ?_ (by assumption)))⟩
  by_cases hn4 : zs4.length ≤ 1048576
  rotate_left
  · have hf3 : ¬ (1048576 < (zs3.length : Int)) := by omega
    have hf4 : 1048576 < (zs4.length : Int) := by omega
    go_enter Tryd.func4, Tryd.ntmps4
    go_wp2
    go_ret
    exact ⟨rfl, by (repeat (first | exact Below.refl _ _ | refine below_drew' ?_ | refine below_drewN' ?_ _ | refine below_alloc' ?_ _ | refine below_set' ?_ (by (try simp); (try omega)) _ | refine below_step ?_ (by assumption)))⟩
  have hf3 : ¬ (1048576 < (zs3.length : Int)) := by omega
  have hf4 : ¬ (1048576 < (zs4.length : Int)) := by omega
  have Hlen1 := Lib.hid (show (muR k1 k2 zs3 zs4).length ≤ 100000 from muR_len k1 k2 zs3 zs4)
  obtain ⟨m3, hm3⟩ : ∃ m : Nat, 1 + zs3.length = m := ⟨_, rfl⟩
  have hml3 : m3 ≤ 1048577 := by omega
  obtain ⟨m4, hm4⟩ : ∃ m : Nat, m3 + zs4.length = m := ⟨_, rfl⟩
  have hml4 : m4 ≤ 2097153 := by omega
  have hm0 : ¬ ((m4 : Int) < 0) := by omega
  obtain ⟨mr1, hmr1⟩ : ∃ m : Nat, 1 + (muR k1 k2 zs3 zs4).length = m := ⟨_, rfl⟩
  have hmr10 : ¬ ((mr1 : Int) < 0) := by omega
  have hmr1b : mr1 ≤ 100001 := by have := Hlen1.out; omega
  have Hmr1 := Lib.hid hmr1; clear hmr1
  have Hm3 := Lib.hid hm3; clear hm3
  have Hm4 := Lib.hid hm4; clear hm4
  have hbw0 : Below w.heap.size w w := Below.refl _ _
  have HT := Lib.hid hT; clear hT
  have hA3_0 := ha3.below hbw0
  have hA4_0 := ha4.below hbw0
  have Ha := Lib.hid (And.intro ha3 ha4)
  clear ha3
  clear ha4
  go_enter Tryd.func4, Tryd.ntmps4
  go_wp2_with (first | (go_at_call 17; first | (refine (toInt64S_calls _ zs4 _ hA4_1 hn4).mono ?_; rintro e w2 ⟨va4, rfl, g_va4, hb2⟩) | (refine (toInt64S_calls _ zs3 _ hA3_0 hn3).mono ?_; rintro e w1 ⟨va3, rfl, g_va3, hb1⟩; have hbw1 := below_step hbw0 hb1; have hA3_1 := hA3_0.below hb1; have hA4_1 := hA4_0.below hb1; have hsz1 := hb1.size; clear hbw0 hA3_0 hA4_0; have f_va3_1 := g_va3; have lt_va3 := Lib.hid (World.ownsRow.lt g_va3); clear g_va3)))
  have hbw2 := below_step hbw1 hb2
  have f_va3_2 := f_va3_1.below hb2
  have hA3_2 := hA3_1.below hb2
  have hA4_2 := hA4_1.below hb2
  have hsz2 := hb2.size
  clear hbw1 f_va3_1 hA3_1 hA4_1
  have f_va4_2 := g_va4
  have lt_va4 := Lib.hid (World.ownsRow.lt g_va4); clear g_va4
  go_wp2_with (first | (go_at_call 16; refine (sMul_calls k1 k2 va3 zs3 va4 zs4 _ f_va3_2.sees f_va4_2.sees).mono ?_; rintro e w3 ⟨p1, rfl, g_p1, hb3⟩))
  have hbw3 := below_step hbw2 hb3
  have f_va3_3 := f_va3_2.below hb3
  have f_va4_3 := f_va4_2.below hb3
  have hA3_3 := hA3_2.below hb3
  have hA4_3 := hA4_2.below hb3
  have hsz3 := hb3.size
  clear hbw2 f_va3_2 f_va4_2 hA3_2 hA4_2
  have f_p1_3 := g_p1
  have lt_p1 := Lib.hid (World.ownsRow.lt g_p1); clear g_p1
  clear f_va3_3 lt_va3
  clear f_va4_3 lt_va4
  go_wp2_with (first | (go_at_call 17; first | (refine (toInt64S_calls _ zs4 _ hA4_4 hn4).mono ?_; rintro e w5 ⟨x4, rfl, g_x4, hb5⟩) | (refine (toInt64S_calls _ zs3 _ hA3_3 hn3).mono ?_; rintro e w4 ⟨x3, rfl, g_x3, hb4⟩; have hbw4 := below_step hbw3 hb4; have f_p1_4 := f_p1_3.below hb4; have hA3_4 := hA3_3.below hb4; have hA4_4 := hA4_3.below hb4; have hsz4 := hb4.size; clear hbw3 f_p1_3 hA3_3 hA4_3; have f_x3_4 := g_x3; have lt_x3 := Lib.hid (World.ownsRow.lt g_x3); clear g_x3)))
  have hbw5 := below_step hbw4 hb5
  have f_p1_5 := f_p1_4.below hb5
  have f_x3_5 := f_x3_4.below hb5
  have hA3_5 := hA3_4.below hb5
  have hA4_5 := hA4_4.below hb5
  have hsz5 := hb5.size
  clear hbw4 f_p1_4 f_x3_4 hA3_4 hA4_4
  have f_x4_5 := g_x4
  have lt_x4 := Lib.hid (World.ownsRow.lt g_x4); clear g_x4
  go_wp2_with (first | (go_at_call 18; refine (iMul_calls k1 k2 x3 zs3 x4 zs4 _ f_x3_5.sees f_x4_5.sees (HT.out.below hbw5)).mono ?_; rintro e w6 ⟨g1, rfl, g_g1, hb6⟩))
  have hbw6 := below_step hbw5 hb6
  have f_p1_6 := f_p1_5.below hb6
  have f_x3_6 := f_x3_5.below hb6
  have f_x4_6 := f_x4_5.below hb6
  have hA3_6 := hA3_5.below hb6
  have hA4_6 := hA4_5.below hb6
  have hsz6 := hb6.size
  clear hbw5 f_p1_5 f_x3_5 f_x4_5 hA3_5 hA4_5
  have f_g1_6 := g_g1
  have lt_g1 := Lib.hid (World.ownsRow.lt g_g1); clear g_g1
  go_wp2_with (first | (go_at_call 13; refine (eqInt64S_same g1 p1 _ _ _ _ f_g1_6 f_p1_6).mono ?_; rintro e w7 ⟨rfl, hb7⟩))
  have hbw7 := below_step hbw6 hb7
  have f_p1_7 := f_p1_6.below hb7
  have f_x3_7 := f_x3_6.below hb7
  have f_x4_7 := f_x4_6.below hb7
  have f_g1_7 := f_g1_6.below hb7
  have hA3_7 := hA3_6.below hb7
  have hA4_7 := hA4_6.below hb7
  have hsz7 := hb7.size
  clear hbw6 f_p1_6 f_x3_6 f_x4_6 f_g1_6 hA3_6 hA4_6
  go_wp2_with (first | (go_at_call 17; refine (toInt64S_calls _ zs3 _ hA3_7 hn3).mono ?_; rintro e w8 ⟨vb3, rfl, g_vb3, hb8⟩))
  have hbw8 := below_step hbw7 hb8
  have f_p1_8 := f_p1_7.below hb8
  have f_x3_8 := f_x3_7.below hb8
  have f_x4_8 := f_x4_7.below hb8
  have f_g1_8 := f_g1_7.below hb8
  have hA3_8 := hA3_7.below hb8
  have hA4_8 := hA4_7.below hb8
  have hsz8 := hb8.size
  clear hbw7 f_p1_7 f_x3_7 f_x4_7 f_g1_7 hA3_7 hA4_7
  have f_vb3_8 := g_vb3
  have lt_vb3 := Lib.hid (World.ownsRow.lt g_vb3); clear g_vb3
  go_wp2_with (first | (go_at_call 13; refine (eqInt64S_same x3 vb3 _ _ _ _ f_x3_8 f_vb3_8).mono ?_; rintro e w9 ⟨rfl, hb9⟩))
  have hbw9 := below_step hbw8 hb9
  have f_p1_9 := f_p1_8.below hb9
  have f_x3_9 := f_x3_8.below hb9
  have f_x4_9 := f_x4_8.below hb9
  have f_g1_9 := f_g1_8.below hb9
  have f_vb3_9 := f_vb3_8.below hb9
  have hA3_9 := hA3_8.below hb9
  have hA4_9 := hA4_8.below hb9
  have hsz9 := hb9.size
  clear hbw8 f_p1_8 f_x3_8 f_x4_8 f_g1_8 f_vb3_8 hA3_8 hA4_8
  clear f_vb3_9 lt_vb3
  go_wp2_with (first | (go_at_call 17; refine (toInt64S_calls _ zs4 _ hA4_9 hn4).mono ?_; rintro e w10 ⟨vb4, rfl, g_vb4, hb10⟩))
  have hbw10 := below_step hbw9 hb10
  have f_p1_10 := f_p1_9.below hb10
  have f_x3_10 := f_x3_9.below hb10
  have f_x4_10 := f_x4_9.below hb10
  have f_g1_10 := f_g1_9.below hb10
  have hA3_10 := hA3_9.below hb10
  have hA4_10 := hA4_9.below hb10
  have hsz10 := hb10.size
  clear hbw9 f_p1_9 f_x3_9 f_x4_9 f_g1_9 hA3_9 hA4_9
  have f_vb4_10 := g_vb4
  have lt_vb4 := Lib.hid (World.ownsRow.lt g_vb4); clear g_vb4
  go_wp2_with (first | (go_at_call 13; refine (eqInt64S_same x4 vb4 _ _ _ _ f_x4_10 f_vb4_10).mono ?_; rintro e w11 ⟨rfl, hb11⟩))
  have hbw11 := below_step hbw10 hb11
  have f_p1_11 := f_p1_10.below hb11
  have f_x3_11 := f_x3_10.below hb11
  have f_x4_11 := f_x4_10.below hb11
  have f_g1_11 := f_g1_10.below hb11
  have f_vb4_11 := f_vb4_10.below hb11
  have hA3_11 := hA3_10.below hb11
  have hA4_11 := hA4_10.below hb11
  have hsz11 := hb11.size
  clear hbw10 f_p1_10 f_x3_10 f_x4_10 f_g1_10 f_vb4_10 hA3_10 hA4_10
  clear f_vb4_11 lt_vb4
  go_wp2_with (first | (go_at_call 14; first | (refine (markInt64S_x x4 _ m3 m4 _ _ f_x4_12 (by omega) (by omega) Hm4.out).mono ?_; rintro e w13 ⟨rfl, mk_x4, hb13, hgs13, hoth13⟩) | (refine (markInt64S_x x3 _ 1 m3 _ _ f_x3_11 (by omega) (by omega) Hm3.out).mono ?_; rintro e w12 ⟨rfl, mk_x3, hb12, hgs12, hoth12⟩; clear f_x3_11; have hbw12 := hbw11.trans (below_le hb12 (by omega)); have f_p1_12 := OwnI.other f_p1_11 hoth12 (fun k hk ha => by have q1 := lt_p1.out k hk; have q2 := lt_x3.out k ha; omega); have f_x4_12 := OwnI.other f_x4_11 hoth12 (fun k hk ha => by have q1 := lt_x4.out k hk; have q2 := lt_x3.out k ha; omega); have f_g1_12 := OwnI.other f_g1_11 hoth12 (fun k hk ha => by have q1 := lt_g1.out k hk; have q2 := lt_x3.out k ha; omega); have hA3_12 := (Ha.out.1).below hbw12; have hA4_12 := (Ha.out.2).below hbw12; have hsz12 := hgs12; clear hbw11 f_p1_11 f_x4_11 f_g1_11 hA3_11 hA4_11)))
  clear f_x4_12
  have hbw13 := hbw12.trans (below_le hb13 (by omega))
  have f_p1_13 := OwnI.other f_p1_12 hoth13 (fun k hk ha => by have q1 := lt_p1.out k hk; have q2 := lt_x4.out k ha; omega)
  have f_g1_13 := OwnI.other f_g1_12 hoth13 (fun k hk ha => by have q1 := lt_g1.out k hk; have q2 := lt_x4.out k ha; omega)
  have hA3_13 := (Ha.out.1).below hbw13
  have hA4_13 := (Ha.out.2).below hbw13
  have hsz13 := hgs13
  clear hbw12 f_p1_12 f_g1_12 hA3_12 hA4_12
  go_wp2_with (first | (go_at_call 13; refine (eqInt64S_same g1 p1 _ _ _ _ f_g1_13 f_p1_13).mono ?_; rintro e w14 ⟨rfl, hb14⟩))
  have hbw14 := below_step hbw13 hb14
  have f_p1_14 := f_p1_13.below hb14
  have f_g1_14 := f_g1_13.below hb14
  have hA3_14 := hA3_13.below hb14
  have hA4_14 := hA4_13.below hb14
  have hsz14 := hb14.size
  clear hbw13 f_p1_13 f_g1_13 hA3_13 hA4_13
  go_wp2_with (first | (go_at_call 14; refine (markInt64S_x g1 _ 1 mr1 _ _ f_g1_14 (by have := Hlen1.out; omega) (by omega) Hmr1.out).mono ?_; rintro e w15 ⟨rfl, mk_g1, hb15, hgs15, hoth15⟩))
  clear f_g1_14
  have hbw15 := hbw14.trans (below_le hb15 (by omega))
  have f_p1_15 := OwnI.other f_p1_14 hoth15 (fun k hk ha => by have q1 := lt_p1.out k hk; have q2 := lt_g1.out k ha; omega)
  have hA3_15 := (Ha.out.1).below hbw15
  have hA4_15 := (Ha.out.2).below hbw15
  have hsz15 := hgs15
  clear hbw14 f_p1_14 hA3_14 hA4_14
  have f_gm1_15 := mk_g1; clear mk_g1
  go_wp2_with (first | (go_at_call 15; refine (heldInt64S_m g1 _ 1 _ mr1 _ f_gm1_15 (by have := Hlen1.out; omega) (by omega) Hmr1.out).mono ?_; rintro e w' ⟨rfl, rfl⟩))
  go_wp2_with (first | (go_at_call 17; first | (refine (toInt64S_calls _ zs4 _ hA4_16 hn4).mono ?_; rintro e w17 ⟨vc4, rfl, g_vc4, hb17⟩) | (refine (toInt64S_calls _ zs3 _ hA3_15 hn3).mono ?_; rintro e w16 ⟨vc3, rfl, g_vc3, hb16⟩; have hbw16 := below_step hbw15 hb16; have f_p1_16 := f_p1_15.below hb16; have f_gm1_16 := f_gm1_15.below hb16; have hA3_16 := hA3_15.below hb16; have hA4_16 := hA4_15.below hb16; have hsz16 := hb16.size; clear hbw15 f_p1_15 f_gm1_15 hA3_15 hA4_15; have f_vc3_16 := g_vc3; have lt_vc3 := Lib.hid (World.ownsRow.lt g_vc3); clear g_vc3)))
  have hbw17 := below_step hbw16 hb17
  have f_p1_17 := f_p1_16.below hb17
  have f_gm1_17 := f_gm1_16.below hb17
  have f_vc3_17 := f_vc3_16.below hb17
  have hA3_17 := hA3_16.below hb17
  have hA4_17 := hA4_16.below hb17
  have hsz17 := hb17.size
  clear hbw16 f_p1_16 f_gm1_16 f_vc3_16 hA3_16 hA4_16
  have f_vc4_17 := g_vc4
  have lt_vc4 := Lib.hid (World.ownsRow.lt g_vc4); clear g_vc4
  go_wp2_with (first | (go_at_call 18; refine (iMul_calls k1 k2 vc3 zs3 vc4 zs4 _ f_vc3_17.sees f_vc4_17.sees (HT.out.below hbw17)).mono ?_; rintro e w18 ⟨h1, rfl, g_h1, hb18⟩))
  have hbw18 := below_step hbw17 hb18
  have f_p1_18 := f_p1_17.below hb18
  have f_gm1_18 := f_gm1_17.below hb18
  have f_vc3_18 := f_vc3_17.below hb18
  have f_vc4_18 := f_vc4_17.below hb18
  have hA3_18 := hA3_17.below hb18
  have hA4_18 := hA4_17.below hb18
  have hsz18 := hb18.size
  clear hbw17 f_p1_17 f_gm1_17 f_vc3_17 f_vc4_17 hA3_17 hA4_17
  have f_h1_18 := g_h1
  have lt_h1 := Lib.hid (World.ownsRow.lt g_h1); clear g_h1
  clear f_vc3_18 lt_vc3
  clear f_vc4_18 lt_vc4
  go_wp2_with (first | (go_at_call 13; refine (eqInt64S_same h1 p1 _ _ _ _ f_h1_18 f_p1_18).mono ?_; rintro e w19 ⟨rfl, hb19⟩))
  have hbw19 := below_step hbw18 hb19
  have f_p1_19 := f_p1_18.below hb19
  have f_gm1_19 := f_gm1_18.below hb19
  have f_h1_19 := f_h1_18.below hb19
  have hA3_19 := hA3_18.below hb19
  have hA4_19 := hA4_18.below hb19
  have hsz19 := hb19.size
  clear hbw18 f_p1_18 f_gm1_18 f_h1_18 hA3_18 hA4_18
  go_wp2_with (first | (go_at_call 15; refine (heldInt64S_m g1 _ 1 _ mr1 _ f_gm1_19 (by have := Hlen1.out; omega) (by omega) Hmr1.out).mono ?_; rintro e w' ⟨rfl, rfl⟩))
  go_ret
  exact ⟨rfl, hbw19⟩
end Go.Proofs.YtgeihpaealomkaaDoor
