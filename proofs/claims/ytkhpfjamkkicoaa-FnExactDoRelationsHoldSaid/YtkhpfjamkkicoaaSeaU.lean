/- 'IsTrivialWord': the model. -/
import Derived.Test.YtkhpfjamkkicoaaSeaS
import Derived.Test.YtkhpfjamkkicoaaGrpJ
namespace Go.Proofs.Ytkhpfjamkkicoaa
open Go.RowKit

/-- What 'IsTrivialWord' answers. -/
def trivW (M : Mach) (zs : List Int) : Bool × Int := if isGrp M zs then resT M M.L.toNat M.S.toNat 201 0 [nf M M.L.toNat M.S.toNat zs] else (false, 1)
theorem trivW_good {M : Mach} {L S : Nat} (hg : Good M L S) {zs : List Int} (h : isGrp M zs = true) : trivW M zs = resT M L S 201 0 [nf M L S zs] := by
  unfold trivW
  rw [if_pos h, hg.hL, hg.hS]
  rfl

end Go.Proofs.Ytkhpfjamkkicoaa

namespace Go.Proofs.Ytkhpfjamkkicoaa
open Go.RowKit

/-- What 'AreEqualWords' answers. -/
def sameW (M : Mach) (zs1 zs2 : List Int) : Bool × Int := if two M zs1 zs2 then resT M M.L.toNat M.S.toNat 201 0 [nf M M.L.toNat M.S.toNat (zs1 ++ turnI zs2)] else (false, 1)
theorem sameW_good {M : Mach} {L S : Nat} (hg : Good M L S) {zs1 zs2 : List Int} (h : two M zs1 zs2 = true) : sameW M zs1 zs2 = resT M L S 201 0 [nf M L S (zs1 ++ turnI zs2)] := by
  unfold sameW
  rw [if_pos h, hg.hL, hg.hS]
  rfl
theorem same_ok {M : Mach} {L S : Nat} (hg : Good M L S) {zs1 zs2 : List Int} (h : two M zs1 zs2 = true) : wordOk S 80 (zs1 ++ turnI zs2) := by
  have h1 := nums_of hg (two_parts h).1
  have h2 := nums_of hg (two_parts h).2
  have l1 := isGrp_len (two_parts h).1
  have l2 := isGrp_len (two_parts h).2
  refine ⟨?_, by rw [List.length_append, turnI_len]; omega⟩
  unfold numsOk at *
  rw [List.all_eq_true] at *
  intro z hz
  rcases List.mem_append.1 hz with hz | hz
  · exact h1 z hz
  · simp only [turnI, List.mem_reverse, List.mem_map] at hz
    obtain ⟨y, hy, rfl⟩ := hz
    have := (numOk_iff S y).1 (h2 y hy)
    exact (numOk_iff S (-y)).2 ⟨by omega, by omega⟩

set_option maxRecDepth 100000 in
set_option maxHeartbeats 4000000 in
theorem sAreEqualWords_calls (M : Mach) (hok : M.Ok) (v1 : Value) (zs1 : List Int) (v2 : Value) (zs2 : List Int) (w : World) (hv1 : SeesI w v1 zs1) (hv2 : SeesI w v2 zs2) :
    Calls Try.prog 7 #[.agg (mc M), v1, v2] w fun e w' => e = .returned (.tuple #[.bool (sameW M zs1 zs2).1, .int .i64 (sameW M zs1 zs2).2]) ∧ Below w.heap.size w w' := by
  obtain ⟨oa1, ca1, rfl, q1⟩ := hv1.view
  obtain ⟨oa2, ca2, rfl, q2⟩ := hv2.view
  clear q1 q2
  have F1 : Hid (cut (mc M) 0 98 = mc M) := Lib.hid (cut_all _ _ (mc_size hok)); have F2 : Hid (0 + 98 ≤ (mc M).size) := Lib.hid (by rw [mc_size hok]; omega)
  have hB : Blk (w.alloc (.cells (mc M) 29)) w.heap.size (mc M) 29 := Blk.new w _ _
  have hbw0 : Below w.heap.size w (w.alloc (.cells (mc M) 29)) := by (repeat (first | exact Below.refl _ _ | refine below_drew' ?_ | refine below_drewN' ?_ _ | refine below_alloc' ?_ _ | refine below_set' ?_ (by (try simp); (try omega)) _ | refine below_step ?_ (by assumption)))
  have hv1B := hv1.below hbw0
  have hv2B := hv2.below hbw0
  clear hv1 hv2
  have hL1 := seesL2 hv1B hv2B
  rw [show (w.alloc (.cells (mc M) 29)).heap.size = w.heap.size + 1 from by simp] at hL1
  have hbw1 := below_alloc' hbw0 (.cells #[Value.slice oa1 zs1.length ca1, Value.slice oa2 zs2.length ca2] 26)
  have hbB : Below (w.alloc (.cells (mc M) 29)).heap.size (w.alloc (.cells (mc M) 29)) ((w.alloc (.cells (mc M) 29)).alloc (.cells #[Value.slice oa1 zs1.length ca1, Value.slice oa2 zs2.length ca2] 26)) := by (repeat (first | exact Below.refl _ _ | refine below_drew' ?_ | refine below_drewN' ?_ _ | refine below_alloc' ?_ _ | refine below_set' ?_ (by (try simp); (try omega)) _ | refine below_step ?_ (by assumption)))
  have hv1C := hv1B.below hbB
  have hv2C := hv2B.below hbB
  obtain ⟨RES, hRES⟩ : ∃ r, sameW M zs1 zs2 = r := ⟨_, rfl⟩
  rw [hRES]
  have HRES := Lib.hid hRES
  clear hRES
  cases hm : two M zs1 zs2
  · have Hr : Hid (RES = (false, 1)) := Lib.hid (by rw [← HRES.out]; simp [sameW, hm])
    clear HRES
    go_enter Try.func7, Try.ntmps7
    go_wp2_with (first | (with_reducible show wpList _ _ _ _ _ _; refine wpList_load_blk rfl 29 (.tmp 3) rfl w.heap.size 0 rfl (mc M) _ (hB) 98 F2.out _ Try.underlying29 rfl size_mach ?_; rw [F1.out]) | (go_at_call 21; refine (l02Code_two M hok _ _ _ zs1 zs2 _ hm _ hL1).mono ?_; rintro e w1 ⟨rfl, hb1⟩; simp only [Bool.false_eq_true, if_false]))
    go_ret2
    exact ⟨ret_bi2 (a := (false, 1)) Hr.out.symm, below_step hbw1 hb1⟩
  · obtain ⟨L, S, hg⟩ := Good.of hok (isGrp_parts (two_parts hm).1).1
    have hl1 := isGrp_len (two_parts hm).1
    have hl2 := isGrp_len (two_parts hm).2
    have hk1 : zs1.length ≤ 1000 := by omega
    have hk2 : (turnI zs2).length ≤ 1000 := by rw [turnI_len]; omega
    have hsm := isGrp_small (two_parts hm).2
    have HT := Lib.hid (fun V W hW => l02Trivial_calls M L S hg V _ (same_ok hg hm) W hW)
    rw [← sameW_good hg hm, HRES.out] at HT
    clear hg HRES
    have hB1 := hB.alloc (.cells #[Value.slice oa1 zs1.length ca1, Value.slice oa2 zs2.length ca2] 26)
    go_enter Try.func7, Try.ntmps7
    go_wp2_with (first | (with_reducible show wpList _ _ _ _ _ _; refine wpList_load_blk rfl 29 (.tmp 3) rfl w.heap.size 0 rfl (mc M) _ (hB) 98 F2.out _ Try.underlying29 rfl size_mach ?_; rw [F1.out]) | (go_at_call 21; refine (l02Code_two M hok _ _ _ zs1 zs2 _ hm _ hL1).mono ?_; rintro e w1 ⟨rfl, hb1⟩; simp only [if_true]))
    have hdr : Below w1.heap.size w1 w1.drew := (Below.refl _ _).drew
    have hB2 := (hB1.keptAll hb1).drew
    have hx1 := (hv1C.below hb1).below hdr
    have hx2 := (hv2C.below hb1).below hdr
    have hbd := below_step (below_step hbw1 hb1) hdr
    refine wp_region_held_drew (S := fun W => Blk W w.heap.size (mc M) 29) (by kernel_rfl) hB2 (fun hS0 => ?_)
    (refine hK_load 0 rfl (by kernel_rfl) (by kernel_rfl) (by kernel_rfl) 29 _ rfl (w.heap.size) 0 rfl (mc M) _ (fun W hW => hW) 98 (F2.out) _ Try.underlying29 rfl size_mach _ (F1.out) (fun _ _ _ h => h) rfl hS0 ?_; (intro K hK; go_simp; refine hK _ ?_; clear hK K))
    (refine hK_take 1 (.slice oa1 zs1.length ca1) rfl (by kernel_rfl) (by kernel_rfl) (by kernel_rfl) (fun _ _ _ h => h) rfl (fun W _ => by go_simp) hS0 ?_; (intro K hK; go_simp; refine hK _ ?_; clear hK K))
    (refine hK_take 2 (.slice oa2 zs2.length ca2) rfl (by kernel_rfl) (by kernel_rfl) (by kernel_rfl) (fun _ _ _ h => h) rfl (fun W _ => by go_simp) hS0 ?_; (intro K hK; go_simp; refine hK _ ?_; clear hK K))
    (refine wpAnyH_ready (rs := [3]) (by kernel_rfl) (by simp) ?_; refine AllReadyH.cons rfl (fun K hK => ?_) AllReadyH.nil); go_simp; refine (l02Inverse_calls _ zs2 _ hx2 (by omega) hsm).mono ?_; rintro e w3 ⟨v3, rfl, hO3, hb3⟩; have hB3 : Blk w3 _ _ _ := Blk.keptAll hS0 hb3; have hx3 := hx1.below hb3; have hbw3 := below_step hbd hb3; obtain ⟨o3, c3, rfl, hq3⟩ := hO3.view; clear hq3
    (go_simp; refine hK.out _ _ (hB3) (fun hS1 => ?_); clear hK K)
    have hL4 := seesL2 hx3 hO3.sees
    have hB4 := hB3.alloc (.cells #[Value.slice oa1 zs1.length ca1, Value.slice o3 (turnI zs2).length c3] 26)
    have hbw4 := below_alloc' hbw3 (.cells #[Value.slice oa1 zs1.length ca1, Value.slice o3 (turnI zs2).length c3] 26)
    (refine wpAnyH_ready (rs := [4]) (by kernel_rfl) (by simp) ?_; refine AllReadyH.cons rfl (fun K hK => ?_) AllReadyH.nil); go_simp; skip
    (go_simp; refine hK.out _ _ (hB4) (fun hS2 => ?_); clear hK K)
    (refine wpAnyH_ready (rs := [5]) (by kernel_rfl) (by simp) ?_; refine AllReadyH.cons rfl (fun K hK => ?_) AllReadyH.nil); go_simp; refine (l02Join_two _ _ _ zs1 (turnI zs2) hk1 hk2 _ hL4).mono ?_; rintro e w5 ⟨v5, rfl, hO5, hb5⟩; have hB5 := hB4.keptAll hb5; have hbw5 := below_step hbw4 hb5
    (go_simp; refine hK.out _ _ (hB5) (fun hS3 => ?_); clear hK K)
    (refine wpAnyH_ready (rs := [6]) (by kernel_rfl) (by simp) ?_; refine AllReadyH.cons rfl (fun K hK => ?_) AllReadyH.nil); go_simp; refine (HT.out _ _ hO5.sees).mono ?_; rintro e w6 ⟨rfl, hb6⟩; have hB6 := hB5.keptAll hb6; have hbw6 := below_step hbw5 hb6
    (go_simp; refine hK.out _ _ (hB6) (fun hS4 => ?_); clear hK K)
    (refine hK_take 7 (.tuple #[.bool RES.1, .int .i64 RES.2]) rfl (by kernel_rfl) (by kernel_rfl) (by kernel_rfl) (fun _ _ _ h => h) rfl (fun W _ => by go_simp) hS4 ?_; (intro K hK; go_simp; refine hK _ ?_; clear hK K))
    (refine hK_take 8 (.bool RES.1) rfl (by kernel_rfl) (by kernel_rfl) (by kernel_rfl) (fun _ _ _ h => h) rfl (fun W _ => by go_simp) hS4 ?_; (intro K hK; go_simp; refine hK _ ?_; clear hK K))
    (refine hK_take 9 (.int .i64 RES.2) rfl (by kernel_rfl) (by kernel_rfl) (by kernel_rfl) (fun _ _ _ h => h) rfl (fun W _ => by go_simp) hS4 ?_; (intro K hK; go_simp; refine hK _ ?_; clear hK K))
    (refine hK_take 10 (.bool RES.1) rfl (by kernel_rfl) (by kernel_rfl) (by kernel_rfl) (fun _ _ _ h => h) rfl (fun W _ => by go_simp) hS4 ?_; (intro K hK; go_simp; refine hK _ ?_; clear hK K))
    (refine hK_take 11 (.int .i64 RES.2) rfl (by kernel_rfl) (by kernel_rfl) (by kernel_rfl) (fun _ _ _ h => h) rfl (fun W _ => by go_simp) hS4 ?_; (intro K hK; go_simp; refine hK _ ?_; clear hK K))
    refine wpAnyH_done (by kernel_rfl) ?_ _
    go_wp2
    go_ret2
    exact ⟨rfl, hbw6⟩
end Go.Proofs.Ytkhpfjamkkicoaa
