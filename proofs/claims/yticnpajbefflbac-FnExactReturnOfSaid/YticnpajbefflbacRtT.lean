/- 'ReturnOf': the model. -/
import Derived.Test.YticnpajbefflbacTuR
import Derived.Test.YticnpajbefflbacRtP
namespace Go.Proofs.Yticnpajbefflbac
open Go.RowKit

theorem l01In_rt (n low high : Int) (r : Bool) (h : decide (low ≤ n ∧ n ≤ high) = r) (w : World) :
    Calls Try.prog 29 #[.int .i64 n, .int .i64 low, .int .i64 high] w fun e w' => e = .returned (.bool r) ∧ w = w' :=
  (l01In_calls n low high w).mono fun e w' h' => ⟨by rw [h'.1, h], h'.2⟩
theorem rtW_len (M : Mach) (hok : M.Ok) (zs : List Int) (x : Int) : (rtW M zs x).length ≤ 1048576 := by
  unfold rtW
  split
  · rename_i h
    cases hm : isGrp M zs
    · simp [rtC, hm] at h
    · obtain ⟨L, S, hg⟩ := Good.of hok (isGrp_parts hm).1
      by_cases hr : 0 ≤ x ∧ x < M.L
      · obtain ⟨n, rfl⟩ := Int.eq_ofNat_of_zero_le hr.1
        have hx : n < L := by have := hg.hL; omega
        have h1 := normK_len M M.L.toNat M.S.toNat (rdK M zs n (cyN (imN M zs) n)) _ (Nat.le_refl _)
        have h2 := (rdK_len hg (nums_of hg hm) hx (cyN (imN M zs) n)).1
        have h3 : cyN (imN M zs) n * zs.length ≤ 3 * 40 := Nat.mul_le_mul (cyN_bd _ _).2 (isGrp_len hm)
        simp only [Int.toNat_natCast]
        omega
      · simp only [rtC, hm, if_true] at h
        rw [if_neg hr] at h
        simp at h
  · simp

set_option maxRecDepth 100000 in
set_option maxHeartbeats 2000000 in
theorem sReturnOf_calls (M : Mach) (hok : M.Ok) (v : Value) (zs : List Int) (x : Int) (w : World) (hv : SeesI w v zs) :
    Calls Try.prog 9 #[.agg (mc M), v, .int .i64 x] w fun e w' => ∃ v1, e = .returned (.tuple #[v1, .int .i64 (rtN M zs x), .int .i64 (rtC M zs x)]) ∧ OwnI w' w.heap.size v1 (rtW M zs x) ∧ Below w.heap.size w w' := by
  obtain ⟨oa, ca, rfl, hvv⟩ := hv.view
  clear hvv
  have F1 : Hid (cut (mc M) 0 98 = mc M) := Lib.hid (cut_all _ _ (mc_size hok)); have F2 : Hid (0 + 98 ≤ (mc M).size) := Lib.hid (by rw [mc_size hok]; omega)
  have hB : Blk (w.alloc (.cells (mc M) 29)) w.heap.size (mc M) 29 := Blk.new w _ _
  have hvB := hv.below (w1 := w.alloc (.cells (mc M) 29)) (by (repeat (first | exact Below.refl _ _ | refine below_drew' ?_ | refine below_drewN' ?_ _ | refine below_alloc' ?_ _ | refine below_set' ?_ (by (try simp); (try omega)) _ | refine below_step ?_ (by assumption))))
  have hbw0 : Below w.heap.size w (w.alloc (.cells (mc M) 29)) := by (repeat (first | exact Below.refl _ _ | refine below_drew' ?_ | refine below_drewN' ?_ _ | refine below_alloc' ?_ _ | refine below_set' ?_ (by (try simp); (try omega)) _ | refine below_step ?_ (by assumption)))
  clear hv
  have hL : SeesL ((w.alloc (.cells (mc M) 29)).alloc (.cells #[.slice oa zs.length ca] 26)) (.slice (some ⟨w.heap.size + 1, 0, none⟩) 1 1) [(.slice oa zs.length ca, zs)] :=
    ⟨w.heap.size + 1, 1, rfl, Blk.new_at _ _ _ _ (by simp), fun i hi => by
      obtain rfl : i = 0 := by simp at hi; omega
      exact hvB.below (by (repeat (first | exact Below.refl _ _ | refine below_drew' ?_ | refine below_drewN' ?_ _ | refine below_alloc' ?_ _ | refine below_set' ?_ (by (try simp); (try omega)) _ | refine below_step ?_ (by assumption))))⟩
  have hB1 : Blk ((w.alloc (.cells (mc M) 29)).alloc (.cells #[.slice oa zs.length ca] 26)) w.heap.size (mc M) 29 := hB.alloc _
  have hvC := hvB.below (w1 := (w.alloc (.cells (mc M) 29)).alloc (.cells #[.slice oa zs.length ca] 26)) (by (repeat (first | exact Below.refl _ _ | refine below_drew' ?_ | refine below_drewN' ?_ _ | refine below_alloc' ?_ _ | refine below_set' ?_ (by (try simp); (try omega)) _ | refine below_step ?_ (by assumption))))
  have hbw1 : Below w.heap.size w ((w.alloc (.cells (mc M) 29)).alloc (.cells #[.slice oa zs.length ca] 26)) := by (repeat (first | exact Below.refl _ _ | refine below_drew' ?_ | refine below_drewN' ?_ _ | refine below_alloc' ?_ _ | refine below_set' ?_ (by (try simp); (try omega)) _ | refine below_step ?_ (by assumption)))
  cases hm : isGrp M zs
  · have Hc : Hid (rtC M zs x = 1) := Lib.hid (by simp [rtC, hm])
    have Hn : Hid (rtN M zs x = 0) := Lib.hid (by simp [rtN, rtC, hm])
    have Hw : Hid (rtW M zs x = []) := Lib.hid (by simp [rtW, rtC, hm])
    have hcg : codeG M [(.slice oa zs.length ca, zs)] = 1 := by
      unfold isGrp at hm; simp only [codeG, grpsOk, List.all_cons, List.all_nil, Bool.and_true, hm]; rfl
    go_enter Try.func9, Try.ntmps9
    go_wp2_with (first | (with_reducible show wpList _ _ _ _ _ _; refine wpList_load_blk rfl 29 (.tmp 3) rfl w.heap.size 0 rfl (mc M) _ (hB) 98 F2.out _ Try.underlying29 rfl size_mach ?_; rw [F1.out]) | (go_at_call 28; refine (l02Code_calls M hok _ [(.slice oa zs.length ca, zs)] (by simp) _ hL).mono ?_; rintro e w1 ⟨rfl, hb1⟩; rw [hcg]))
    go_ret3
    exact ⟨_, ret_vij Hn.out.symm Hc.out.symm, by rw [Hw.out]; exact OwnI.nil _ _, below_step hbw1 hb1⟩
  · obtain ⟨L, S, hg⟩ := Good.of hok (isGrp_parts hm).1
    have hL3 := hg.L3
    have hLL := hg.hL
    have hcL := mc_L M
    rw [hLL] at hcL
    have hcg : codeG M [(.slice oa zs.length ca, zs)] = 0 := by
      unfold isGrp at hm; simp only [codeG, grpsOk, List.all_cons, List.all_nil, Bool.and_true, hm]; rfl
    have hwL : IntKind.i64.wrap ((L : Int) - 1) = (L : Int) - 1 := by simp [IntKind.wrap, IntKind.bits, IntKind.signed]; omega
    by_cases hr : 0 ≤ x ∧ x < (L : Int)
    · obtain ⟨n, rfl⟩ := Int.eq_ofNat_of_zero_le hr.1
      have hx : n < L := by omega
      have hnum := nums_of hg hm
      have hln := isGrp_len hm
      have hw8 : IntKind.u8.wrap (n : Int) = (n : Int) := by simp [IntKind.wrap, IntKind.bits, IntKind.signed]; omega
      have hin : decide ((0 : Int) ≤ (n : Int) ∧ (n : Int) ≤ (L : Int) - 1) = true := by simp; omega
      have HE : Hid (rtC M zs n = rtE M zs n) := Lib.hid (by simp only [rtC, hm, if_true]; rw [if_pos (by rw [hLL]; exact hr)]; rfl)
      have Hg := Lib.hid hg
      have Hnum := Lib.hid hnum
      by_cases h4 : 40 < cyN (imN M zs) n * zs.length
      · have Hc : Hid (rtC M zs n = 3) := Lib.hid (by rw [HE.out]; unfold rtE; rw [if_pos h4])
        have Hn : Hid (rtN M zs n = 0) := Lib.hid (by unfold rtN; rw [Hc.out]; rfl)
        have Hw : Hid (rtW M zs n = []) := Lib.hid (by unfold rtW; rw [Hc.out]; rfl)
        clear hg hnum
        go_enter Try.func9, Try.ntmps9
        go_wp2_with (first | (with_reducible show wpList _ _ _ _ _ _; refine wpList_load_blk rfl 29 (.tmp 3) rfl w.heap.size 0 rfl (mc M) _ (by first | exact hB2 | exact hB) 98 F2.out _ Try.underlying29 rfl size_mach ?_; rw [F1.out]) | (go_at_call 28; refine (l02Code_calls M hok _ [(.slice oa zs.length ca, zs)] (by simp) _ hL).mono ?_; rintro e w1 ⟨rfl, hb1⟩; rw [hcg]; have hB2 := hB1.keptAll hb1; have hv2 := hvC.below hb1; have hbw2 := below_step hbw1 hb1; have c1 := hB2.cell 0; rw [hcL] at c1) | (go_at_call 29; refine (l01In_rt _ _ _ true hin _).mono ?_; rintro e w' ⟨rfl, rfl⟩) | (go_at_call 31; refine (l06Of_calls M L S Hg.out _).mono ?_; rintro e w3 ⟨⟨l, rfl, hl⟩, hb3⟩; have hv3 := hv2.below hb3; have hbw3 := below_step hbw2 hb3) | (go_at_call 30; refine (l06Return_calls M L S l Hg.out hl _ zs Hnum.out hln n hx _ hv3).mono ?_; rintro e w4 ⟨hp1, hp2, hb4⟩; obtain rfl := hp1 h4; have hbw4 := below_step hbw3 hb4))
        go_ret3
        exact ⟨_, ret_vij Hn.out.symm Hc.out.symm, by rw [Hw.out]; exact OwnI.nil _ _, hbw4⟩
      · have Hc : Hid (rtC M zs n = 0) := Lib.hid (by rw [HE.out]; unfold rtE; rw [if_neg h4])
        have Hn : Hid (rtN M zs n = (cyN (imN M zs) n : Int)) := Lib.hid (by unfold rtN; rw [Hc.out]; rfl)
        have Hw : Hid (rtW M zs n = normK M L S (rdK M zs n (cyN (imN M zs) n)) (rdK M zs n (cyN (imN M zs) n)).length) := Lib.hid (by unfold rtW; rw [Hc.out, hLL, hg.hS]; rfl)
        clear hg hnum
        go_enter Try.func9, Try.ntmps9
        go_wp2_with (first | (with_reducible show wpList _ _ _ _ _ _; refine wpList_load_blk rfl 29 (.tmp 3) rfl w.heap.size 0 rfl (mc M) _ (by first | exact hB2 | exact hB) 98 F2.out _ Try.underlying29 rfl size_mach ?_; rw [F1.out]) | (go_at_call 28; refine (l02Code_calls M hok _ [(.slice oa zs.length ca, zs)] (by simp) _ hL).mono ?_; rintro e w1 ⟨rfl, hb1⟩; rw [hcg]; have hB2 := hB1.keptAll hb1; have hv2 := hvC.below hb1; have hbw2 := below_step hbw1 hb1; have c1 := hB2.cell 0; rw [hcL] at c1) | (go_at_call 29; refine (l01In_rt _ _ _ true hin _).mono ?_; rintro e w' ⟨rfl, rfl⟩) | (go_at_call 31; refine (l06Of_calls M L S Hg.out _).mono ?_; rintro e w3 ⟨⟨l, rfl, hl⟩, hb3⟩; have hv3 := hv2.below hb3; have hbw3 := below_step hbw2 hb3) | (go_at_call 30; refine (l06Return_calls M L S l Hg.out hl _ zs Hnum.out hln n hx _ hv3).mono ?_; rintro e w4 ⟨hp1, hp2, hb4⟩; obtain ⟨u, rfl, hO4⟩ := hp2 h4; have hbw4 := below_step hbw3 hb4; have hsz3 := hbw3.size))
        go_ret3
        exact ⟨_, ret_vij Hn.out.symm Hc.out.symm, by rw [Hw.out]; exact hO4.base_le hsz3, hbw4⟩
    · have Hc : Hid (rtC M zs x = 2) := Lib.hid (by simp only [rtC, hm, if_true]; rw [if_neg (by rw [hLL]; exact hr)])
      have Hn : Hid (rtN M zs x = 0) := Lib.hid (by unfold rtN; rw [Hc.out]; rfl)
      have Hw : Hid (rtW M zs x = []) := Lib.hid (by unfold rtW; rw [Hc.out]; rfl)
      have hin : decide ((0 : Int) ≤ x ∧ x ≤ (L : Int) - 1) = false := by simp; omega
      go_enter Try.func9, Try.ntmps9
      go_wp2_with (first | (with_reducible show wpList _ _ _ _ _ _; refine wpList_load_blk rfl 29 (.tmp 3) rfl w.heap.size 0 rfl (mc M) _ (by first | exact hB2 | exact hB) 98 F2.out _ Try.underlying29 rfl size_mach ?_; rw [F1.out]) | (go_at_call 28; refine (l02Code_calls M hok _ [(.slice oa zs.length ca, zs)] (by simp) _ hL).mono ?_; rintro e w1 ⟨rfl, hb1⟩; rw [hcg]; have hB2 := hB1.keptAll hb1; have hbw2 := below_step hbw1 hb1; have c1 := hB2.cell 0; rw [hcL] at c1) | (go_at_call 29; refine (l01In_rt _ _ _ false hin _).mono ?_; rintro e w' ⟨rfl, rfl⟩))
      go_ret3
      exact ⟨_, ret_vij Hn.out.symm Hc.out.symm, by rw [Hw.out]; exact OwnI.nil _ _, hbw2⟩
end Go.Proofs.Yticnpajbefflbac
