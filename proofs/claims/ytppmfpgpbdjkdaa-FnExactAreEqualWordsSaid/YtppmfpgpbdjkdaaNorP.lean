/- 'NormalWord': the program and the model. -/
import Derived.Test.YtppmfpgpbdjkdaaNorW
import Derived.Test.YtppmfpgpbdjkdaaNorS
import Derived.Test.YtppmfpgpbdjkdaaGrpT
namespace Go.Proofs.Ytppmfpgpbdjkdaa
open Go.RowKit

theorem normR_good {M : Mach} {L S : Nat} (hg : Good M L S) {zs : List Int} (h : isGrp M zs = true) : normR M zs = normK M L S zs zs.length := by
  simp [normR, h, hg.hL, hg.hS]
theorem grp_nums {M : Mach} {L S : Nat} (hg : Good M L S) {zs : List Int} (h : isGrp M zs = true) : ∀ z ∈ zs, numOk S z = true := by
  have h2 := (isGrp_parts h).2
  rw [hg.hS] at h2
  intro z hz
  obtain ⟨j, hj, rfl⟩ := List.getElem_of_mem hz
  exact grpOk_at h2 j hj

set_option maxRecDepth 100000 in
set_option maxHeartbeats 1000000 in
theorem iNormalWord_calls (M : Mach) (hok : M.Ok) (v : Value) (zs : List Int) (w : World) (hv : SeesI w v zs) :
    Calls Try.prog 20 #[.agg (mc M), v] w fun e w' => ∃ vr, e = .returned (.tuple #[vr, .int .i64 (code1 M zs)]) ∧ OwnI w' w.heap.size vr (normR M zs) ∧ Below w.heap.size w w' := by
  have F1 : Hid (cut (mc M) 0 98 = mc M) := Lib.hid (cut_all _ _ (mc_size hok)); have F2 : Hid (0 + 98 ≤ (mc M).size) := Lib.hid (by rw [mc_size hok]; omega)
  have hB : Blk (w.alloc (.cells (mc M) 29)) w.heap.size (mc M) 29 := Blk.new w _ _
  have hz16 := zero_i16
  have Hz16 : Hid ((ints zer).size = 16) := Lib.hid (by rw [ints_size]; rfl)
  have hvB := hv.below (w1 := w.alloc (.cells (mc M) 29)) (by (repeat (first | exact Below.refl _ _ | refine below_drew' ?_ | refine below_drewN' ?_ _ | refine below_alloc' ?_ _ | refine below_set' ?_ (by (try simp); (try omega)) _ | refine below_step ?_ (by assumption))))
  have hbw0 : Below w.heap.size w (w.alloc (.cells (mc M) 29)) := by (repeat (first | exact Below.refl _ _ | refine below_drew' ?_ | refine below_drewN' ?_ _ | refine below_alloc' ?_ _ | refine below_set' ?_ (by (try simp); (try omega)) _ | refine below_step ?_ (by assumption)))
  clear hv
  cases hm : isGrp M zs
  · have Hc : Hid (code1 M zs = 1) := Lib.hid (by simp [code1, hm])
    have Hr : Hid (normR M zs = []) := Lib.hid (by simp [normR, hm])
    go_enter Try.func20, Try.ntmps20
    go_wp2_with (first | (with_reducible show wpList _ _ _ _ _ _; refine wpList_load_blk rfl 29 (.tmp 2) rfl w.heap.size 0 rfl (mc M) _ (hB) 98 F2.out _ Try.underlying29 rfl size_mach ?_; rw [F1.out]) | (go_at_call 33; refine (IsGroupWord_calls M hok _ zs _ hvB).mono ?_; rintro e w1 ⟨rfl, hb1⟩))
    go_ret2
    exact ⟨_, ret_vi Hc.out.symm, by rw [Hr.out]; exact OwnI.nil _ _, by (repeat (first | exact Below.refl _ _ | refine below_drew' ?_ | refine below_drewN' ?_ _ | refine below_alloc' ?_ _ | refine below_set' ?_ (by (try simp); (try omega)) _ | refine below_step ?_ (by assumption)))⟩
  · obtain ⟨L, S, hg⟩ := Good.of hok (isGrp_parts hm).1
    have Hc : Hid (code1 M zs = 0) := Lib.hid (by simp [code1, hm])
    have Hr := Lib.hid (normR_good hg hm)
    have hzs := Lib.hid (grp_nums hg hm)
    have hln := isGrp_len hm
    have Hg := Lib.hid hg
    clear hg
    have Hns : Hid ((ints (nrmP M L S S)).size = 16) := Lib.hid (by rw [ints_size, nrmP_len])
    have Hno : Hid (over (ints zer) 0 (ints (nrmP M L S S)) = ints (nrmP M L S S)) := Lib.hid (over_all _ _ (by rw [Hns.out, Hz16.out]))
    go_enter Try.func20, Try.ntmps20
    go_wp2_with (first | (with_reducible show wpList _ _ _ _ _ _; refine wpList_load_blk rfl 29 (.tmp 2) rfl w.heap.size 0 rfl (mc M) _ (by first | exact hB1 | exact hB) 98 F2.out _ Try.underlying29 rfl size_mach ?_; rw [F1.out]) | (go_at_call 33; refine (IsGroupWord_calls M hok _ zs _ hvB).mono ?_; rintro e w1 ⟨rfl, hb1⟩; have hv1 := hvB.below hb1; have hB1 := hB.keptAll hb1; have hbw := below_step hbw0 hb1) | (go_at_call 49; refine (normalNumbers_calls M L S Hg.out _).mono ?_; rintro e w2 ⟨rfl, hb2⟩; have hv2 := (hv1.below hb2).below (w1 := w2.alloc (.cells (ints zer) 64)) (by (repeat (first | exact Below.refl _ _ | refine below_drew' ?_ | refine below_drewN' ?_ _ | refine below_alloc' ?_ _ | refine below_set' ?_ (by (try simp); (try omega)) _ | refine below_step ?_ (by assumption)))); have hbw2 := below_alloc' (below_step hbw hb2) (.cells (ints zer) 64); have hlt2 := (hB1.keptAll hb2).lt; have hX2 : Blk (w2.alloc (.cells (ints zer) 64)) w2.heap.size (ints zer) 64 := Blk.new _ _ _) | (with_reducible show wpList _ _ _ _ _ _; refine wpList_store_row rfl 64 _ _ rfl w2.heap.size 0 (ints (nrmP M L S S)) rfl rfl _ _ hX2 (by rw [Hns.out, Hz16.out]; omega) (by rw [Hns.out]; exact size_i16) (ints_one _) _ Hno.out ?_; intro w3 hs3; have hX3 := hs3.blk; have hv3 := hv2.other (fun k hk => hs3.other k (by have := (hv1.below hb2).lt k hk; omega)); have hbw3 := hs3.below _ _ (by omega) hbw2) | (go_at_call 50; refine (normalWord_calls M L S Hg.out w2.heap.size 0 _ zs hzs.out (by omega) _ hX3.norm hv3).mono ?_; rintro e w4 ⟨v4, rfl, hO, hb4⟩))
    go_ret2
    exact ⟨_, ret_vi Hc.out.symm, by rw [Hr.out]; exact hO.base_le hbw3.size, below_step hbw3 hb4⟩

set_option maxRecDepth 100000 in
set_option maxHeartbeats 1000000 in
theorem sNormalWord_calls (M : Mach) (hok : M.Ok) (v : Value) (zs : List Int) (w : World) (hv : SeesI w v zs) :
    Calls Try.prog 19 #[.agg (mc M), v] w fun e w' => ∃ vr, e = .returned (.tuple #[vr, .int .i64 (code1 M zs)]) ∧ OwnI w' w.heap.size vr (normR M zs) ∧ Below w.heap.size w w' := by
  obtain ⟨oa, ca, rfl, hvv⟩ := hv.view
  clear hvv
  have F1 : Hid (cut (mc M) 0 98 = mc M) := Lib.hid (cut_all _ _ (mc_size hok)); have F2 : Hid (0 + 98 ≤ (mc M).size) := Lib.hid (by rw [mc_size hok]; omega)
  have hB : Blk (w.alloc (.cells (mc M) 29)) w.heap.size (mc M) 29 := Blk.new w _ _
  have hvB := hv.below (w1 := w.alloc (.cells (mc M) 29)) (by (repeat (first | exact Below.refl _ _ | refine below_drew' ?_ | refine below_drewN' ?_ _ | refine below_alloc' ?_ _ | refine below_set' ?_ (by (try simp); (try omega)) _ | refine below_step ?_ (by assumption))))
  have hbw0 : Below w.heap.size w (w.alloc (.cells (mc M) 29)) := by (repeat (first | exact Below.refl _ _ | refine below_drew' ?_ | refine below_drewN' ?_ _ | refine below_alloc' ?_ _ | refine below_set' ?_ (by (try simp); (try omega)) _ | refine below_step ?_ (by assumption)))
  clear hv
  have hL : SeesL ((w.alloc (.cells (mc M) 29)).alloc (.cells #[.slice oa zs.length ca] 26)) (.slice (some ⟨w.heap.size + 1, 0, none⟩) 1 1) [(.slice oa zs.length ca, zs)] :=
    ⟨w.heap.size + 1, 1, rfl, Blk.new_at _ _ _ _ (by simp), fun i hi => by
      obtain rfl : i = 0 := by simp at hi; omega
      exact hvB.below (by (repeat (first | exact Below.refl _ _ | refine below_drew' ?_ | refine below_drewN' ?_ _ | refine below_alloc' ?_ _ | refine below_set' ?_ (by (try simp); (try omega)) _ | refine below_step ?_ (by assumption))))⟩
  have hB1 : Blk ((w.alloc (.cells (mc M) 29)).alloc (.cells #[.slice oa zs.length ca] 26)) w.heap.size (mc M) 29 := hB.alloc _
  have hvC := hvB.below (w1 := (w.alloc (.cells (mc M) 29)).alloc (.cells #[.slice oa zs.length ca] 26)) (by (repeat (first | exact Below.refl _ _ | refine below_drew' ?_ | refine below_drewN' ?_ _ | refine below_alloc' ?_ _ | refine below_set' ?_ (by (try simp); (try omega)) _ | refine below_step ?_ (by assumption))))
  have hbw1 : Below w.heap.size w ((w.alloc (.cells (mc M) 29)).alloc (.cells #[.slice oa zs.length ca] 26)) := by (repeat (first | exact Below.refl _ _ | refine below_drew' ?_ | refine below_drewN' ?_ _ | refine below_alloc' ?_ _ | refine below_set' ?_ (by (try simp); (try omega)) _ | refine below_step ?_ (by assumption)))
  cases hm : isGrp M zs
  · have Hc : Hid (code1 M zs = 1) := Lib.hid (by simp [code1, hm])
    have hcg : codeG M [(.slice oa zs.length ca, zs)] = 1 := by
      unfold isGrp at hm; simp only [codeG, grpsOk, List.all_cons, List.all_nil, Bool.and_true, hm]; rfl
    have Hr : Hid (normR M zs = []) := Lib.hid (by simp [normR, hm])
    go_enter Try.func19, Try.ntmps19
    go_wp2_with (first | (with_reducible show wpList _ _ _ _ _ _; refine wpList_load_blk rfl 29 (.tmp 2) rfl w.heap.size 0 rfl (mc M) _ (hB) 98 F2.out _ Try.underlying29 rfl size_mach ?_; rw [F1.out]) | (go_at_call 30; refine (l02Code_calls M hok _ [(.slice oa zs.length ca, zs)] (by simp) _ hL).mono ?_; rintro e w1 ⟨rfl, hb1⟩; rw [hcg]))
    go_ret2
    exact ⟨_, ret_vi Hc.out.symm, by rw [Hr.out]; exact OwnI.nil _ _, below_step hbw1 hb1⟩
  · obtain ⟨L, S, hg⟩ := Good.of hok (isGrp_parts hm).1
    have Hc : Hid (code1 M zs = 0) := Lib.hid (by simp [code1, hm])
    have hcg : codeG M [(.slice oa zs.length ca, zs)] = 0 := by
      unfold isGrp at hm; simp only [codeG, grpsOk, List.all_cons, List.all_nil, Bool.and_true, hm]; rfl
    have Hr := Lib.hid (normR_good hg hm)
    have hzs := Lib.hid (grp_nums hg hm)
    have hln := isGrp_len hm
    have Hg := Lib.hid hg
    clear hg
    go_enter Try.func19, Try.ntmps19
    go_wp2_with (first | (with_reducible show wpList _ _ _ _ _ _; refine wpList_load_blk rfl 29 (.tmp 2) rfl w.heap.size 0 rfl (mc M) _ (hB) 98 F2.out _ Try.underlying29 rfl size_mach ?_; rw [F1.out]) | (go_at_call 30; refine (l02Code_calls M hok _ [(.slice oa zs.length ca, zs)] (by simp) _ hL).mono ?_; rintro e w1 ⟨rfl, hb1⟩; rw [hcg]; have hv1 := hvC.below hb1; have hB2 := hB1.keptAll hb1; have hbw := below_step hbw1 hb1))
    have hdr : Below w1.heap.size w1 w1.drew := (Below.refl _ _).drew
    have hvd := hv1.below hdr
    have hbd := below_step hbw hdr
    refine wp_region_held_drew (S := fun W => Blk W w.heap.size (mc M) 29) (by kernel_rfl) hB2.drew (fun hS0 => ?_)
    (refine hK_take 0 (.slice oa zs.length ca) rfl (by kernel_rfl) (by kernel_rfl) (by kernel_rfl) (fun _ _ _ h => h) rfl (fun W _ => by go_simp) hS0 ?_; (intro K hK; go_simp; refine hK _ ?_; clear hK K))
    (refine hK_load 1 rfl (by kernel_rfl) (by kernel_rfl) (by kernel_rfl) 29 _ rfl (w.heap.size) 0 rfl (mc M) _ (fun W hW => hW) 98 (F2.out) _ Try.underlying29 rfl size_mach _ (F1.out) (fun _ _ _ h => h) rfl hS0 ?_; (intro K hK; go_simp; refine hK _ ?_; clear hK K))
    (refine hK_load 3 rfl (by kernel_rfl) (by kernel_rfl) (by kernel_rfl) 29 _ rfl (w.heap.size) 0 rfl (mc M) _ (fun W hW => hW) 98 (F2.out) _ Try.underlying29 rfl size_mach _ (F1.out) (fun _ _ _ h => h) rfl hS0 ?_; (intro K hK; go_simp; refine hK _ ?_; clear hK K))
    (refine wpAnyH_ready (rs := [2]) (by kernel_rfl) (by simp) ?_; refine AllReadyH.cons rfl (fun K hK => ?_) AllReadyH.nil); go_simp; refine (l01Classes_calls M L S Hg.out _).mono ?_; rintro e w3 ⟨rfl, hb3⟩; have hB3 : Blk w3 _ _ _ := Blk.keptAll hS0 hb3; have hv3 := hvd.below hb3; have hbw3 := below_step hbd hb3
    (go_simp; refine hK.out _ _ (hB3) (fun hS1 => ?_); clear hK K)
    (refine wpAnyH_ready (rs := [4]) (by kernel_rfl) (by simp) ?_; refine AllReadyH.cons rfl (fun K hK => ?_) AllReadyH.nil); go_simp; refine (l01Trivial_calls M L S Hg.out _).mono ?_; rintro e w4 ⟨⟨l, rfl, hll, hl⟩, hb4⟩; have hB4 := hB3.keptAll hb4; have hv4 := hv3.below hb4; have hbw4 := below_step hbw3 hb4
    (go_simp; refine hK.out _ _ (hB4) (fun hS2 => ?_); clear hK K)
    (refine wpAnyH_ready (rs := [5]) (by kernel_rfl) (by simp) ?_; refine AllReadyH.cons rfl (fun K hK => ?_) AllReadyH.nil); go_simp; refine (l02Normal_calls M L S Hg.out l hll hl _ zs hzs.out (by omega) _ hv4).mono ?_; rintro e w5 ⟨v5, rfl, hO5, hb5⟩; have hB5 := hB4.keptAll hb5; have hbw5 := below_step hbw4 hb5
    (go_simp; refine hK.out _ _ (hB5) (fun hS3 => ?_); clear hK K)
    (refine hK_take 6 (v5) rfl (by kernel_rfl) (by kernel_rfl) (by kernel_rfl) (fun _ _ _ h => h) rfl (fun W _ => by go_simp) hS3 ?_; (intro K hK; go_simp; refine hK _ ?_; clear hK K))
    (refine hK_take 7 (.int .i64 (0 : Int)) rfl (by kernel_rfl) (by kernel_rfl) (by kernel_rfl) (fun _ _ _ h => h) rfl (fun W _ => by go_simp) hS3 ?_; (intro K hK; go_simp; refine hK _ ?_; clear hK K))
    refine wpAnyH_done (by kernel_rfl) ?_ _
    go_wp2
    go_ret2
    exact ⟨_, ret_vi Hc.out.symm, by rw [Hr.out]; exact hO5.base_le (by have := hbw4.size; omega), hbw5⟩
end Go.Proofs.Ytppmfpgpbdjkdaa
