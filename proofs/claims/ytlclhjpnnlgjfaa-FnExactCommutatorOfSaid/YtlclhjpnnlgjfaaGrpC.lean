/- Both 'CommutatorOf's. -/
import Derived.Test.YtlclhjpnnlgjfaaGrpJ
namespace Go.Proofs.Ytlclhjpnnlgjfaa
open Go.RowKit

def comW (z1 z2 : List Int) : List Int := turnI z1 ++ (turnI z2 ++ (z1 ++ z2))
theorem comW_len (z1 z2 : List Int) : (comW z1 z2).length = 2 * (z1.length + z2.length) := by simp [comW, turnI_len]; omega
def comR (M : Mach) (z1 z2 : List Int) : List Int := if two M z1 z2 then toldR (comW z1 z2) else []
def comC (M : Mach) (z1 z2 : List Int) : Int := if two M z1 z2 then toldC (comW z1 z2) else 1
theorem comR_len (M : Mach) (z1 z2 : List Int) : (comR M z1 z2).length ≤ 1048576 := by
  unfold comR
  split
  · exact toldR_len _
  · simp
theorem short4 (v1 v2 v3 v4 : Value) {z1 z2 z3 z4 : List Int} (h1 : z1.length ≤ 1000) (h2 : z2.length ≤ 1000) (h3 : z3.length ≤ 1000) (h4 : z4.length ≤ 1000) : ∀ p ∈ [(v1, z1), (v2, z2), (v3, z3), (v4, z4)], p.2.length ≤ 1000 := by
  intro p hp
  simp only [List.mem_cons, List.not_mem_nil, or_false] at hp
  rcases hp with rfl | rfl | rfl | rfl
  · exact h1
  · exact h2
  · exact h3
  · exact h4
theorem flat4 (v1 v2 v3 v4 : Value) (z1 z2 z3 z4 : List Int) : flatI [(v1, z1), (v2, z2), (v3, z3), (v4, z4)] = z1 ++ (z2 ++ (z3 ++ z4)) := by simp [flatI]
theorem seesL4 {w : World} {v1 v2 v3 v4 : Value} {z1 z2 z3 z4 : List Int} (h1 : SeesI w v1 z1) (h2 : SeesI w v2 z2) (h3 : SeesI w v3 z3) (h4 : SeesI w v4 z4) :
    SeesL (w.alloc (.cells #[v1, v2, v3, v4] 26)) (.slice (some ⟨w.heap.size, 0, none⟩) 4 4) [(v1, z1), (v2, z2), (v3, z3), (v4, z4)] :=
  ⟨w.heap.size, 4, rfl, Blk.new _ _ _, fun i hi => by
    have hb : Below w.heap.size w (w.alloc (.cells #[v1, v2, v3, v4] 26)) := by (repeat (first | exact Below.refl _ _ | refine below_drew' ?_ | refine below_drewN' ?_ _ | refine below_alloc' ?_ _ | refine below_set' ?_ (by (try simp); (try omega)) _ | refine below_step ?_ (by assumption)))
    match i, hi with
    | 0, _ => exact h1.below hb
    | 1, _ => exact h2.below hb
    | 2, _ => exact h3.below hb
    | 3, _ => exact h4.below hb⟩

theorem joinWords_four (v v1 v2 v3 v4 : Value) (z1 z2 : List Int) (h1 : z1.length ≤ 1000) (h2 : z2.length ≤ 1000) (w : World) (hv : SeesL w v [(v1, turnI z1), (v2, turnI z2), (v3, z1), (v4, z2)]) :
    Calls Try.prog 27 #[v] w fun e w' => ∃ v', e = .returned v' ∧ OwnI w' w.heap.size v' (comW z1 z2) ∧ Below w.heap.size w w' :=
  (joinWords_calls v _ (by simp) (short4 _ _ _ _ (by rw [turnI_len]; exact h1) (by rw [turnI_len]; exact h2) h1 h2) w hv).mono fun e w' ⟨v', h, hO, hb⟩ => ⟨v', h, by rw [flat4] at hO; exact hO, hb⟩
theorem l02Join_four (v v1 v2 v3 v4 : Value) (z1 z2 : List Int) (h1 : z1.length ≤ 1000) (h2 : z2.length ≤ 1000) (w : World) (hv : SeesL w v [(v1, turnI z1), (v2, turnI z2), (v3, z1), (v4, z2)]) :
    Calls Try.prog 22 #[v] w fun e w' => ∃ v', e = .returned v' ∧ OwnI w' w.heap.size v' (comW z1 z2) ∧ Below w.heap.size w w' :=
  (l02Join_calls v _ (by simp) (short4 _ _ _ _ (by rw [turnI_len]; exact h1) (by rw [turnI_len]; exact h2) h1 h2) w hv).mono fun e w' ⟨v', h, hO, hb⟩ => ⟨v', h, by rw [flat4] at hO; exact hO, hb⟩

set_option maxRecDepth 100000 in
set_option maxHeartbeats 4000000 in
theorem iCommutatorOf_calls (M : Mach) (hok : M.Ok) (v1 : Value) (zs1 : List Int) (v2 : Value) (zs2 : List Int) (w : World) (hv1 : SeesI w v1 zs1) (hv2 : SeesI w v2 zs2) :
    Calls Try.prog 17 #[.agg (mc M), v1, v2] w fun e w' => ∃ vr, e = .returned (.tuple #[vr, .int .i64 (comC M zs1 zs2)]) ∧ OwnI w' w.heap.size vr (comR M zs1 zs2) ∧ Below w.heap.size w w' := by
  obtain ⟨oa1, ca1, rfl, q1⟩ := hv1.view
  obtain ⟨oa2, ca2, rfl, q2⟩ := hv2.view
  clear q1 q2
  have F1 : Hid (cut (mc M) 0 98 = mc M) := Lib.hid (cut_all _ _ (mc_size hok)); have F2 : Hid (0 + 98 ≤ (mc M).size) := Lib.hid (by rw [mc_size hok]; omega)
  have hB : Blk (w.alloc (.cells (mc M) 29)) w.heap.size (mc M) 29 := Blk.new w _ _
  have hbw0 : Below w.heap.size w (w.alloc (.cells (mc M) 29)) := by (repeat (first | exact Below.refl _ _ | refine below_drew' ?_ | refine below_drewN' ?_ _ | refine below_alloc' ?_ _ | refine below_set' ?_ (by (try simp); (try omega)) _ | refine below_step ?_ (by assumption)))
  have hv1B := hv1.below hbw0
  have hv2B := hv2.below hbw0
  clear hv1 hv2
  cases hm : two M zs1 zs2
  · have Hc : Hid (comC M zs1 zs2 = 1) := Lib.hid (by simp [comC, hm])
    have Hr : Hid (comR M zs1 zs2 = []) := Lib.hid (by simp [comR, hm])
    unfold two at hm
    go_enter Try.func17, Try.ntmps17
    go_wp2_with (first | (with_reducible show wpList _ _ _ _ _ _; refine wpList_load_blk rfl 29 (.tmp 3) rfl w.heap.size 0 rfl (mc M) _ (hB) 98 F2.out _ Try.underlying29 rfl size_mach ?_; rw [F1.out]) | (go_at_call 25; refine (areGroupWords_calls M hok _ zs1 _ zs2 _ hv1B hv2B).mono ?_; rintro e w1 ⟨rfl, hb1⟩; rw [hm]))
    go_ret2
    exact ⟨_, ret_vi Hc.out.symm, by rw [Hr.out]; exact OwnI.nil _ _, by (repeat (first | exact Below.refl _ _ | refine below_drew' ?_ | refine below_drewN' ?_ _ | refine below_alloc' ?_ _ | refine below_set' ?_ (by (try simp); (try omega)) _ | refine below_step ?_ (by assumption)))⟩
  · have hl1 := isGrp_len (two_parts hm).1
    have hl2 := isGrp_len (two_parts hm).2
    have hk1 : zs1.length ≤ 1000 := by omega
    have hk2 : zs2.length ≤ 1000 := by omega
    have hs1 := Lib.hid (isGrp_small (two_parts hm).1)
    have hs2 := Lib.hid (isGrp_small (two_parts hm).2)
    by_cases h40 : 2 * (zs1.length + zs2.length) ≤ 40
    · have Hc : Hid (comC M zs1 zs2 = 0) := Lib.hid (by simp [comC, hm, toldC, comW_len, h40])
      have Hr : Hid (comR M zs1 zs2 = comW zs1 zs2) := Lib.hid (by simp [comR, hm, toldR, comW_len, h40])
      have hgt : ¬ (40 < 2 * ((zs1.length : Int) + (zs2.length : Int))) := by omega
      have Ht1 := Lib.hid (turnI_len zs1)
      have Ht2 := Lib.hid (turnI_len zs2)
      unfold two at hm
      go_enter Try.func17, Try.ntmps17
      go_wp2_with (first | (with_reducible show wpList _ _ _ _ _ _; refine wpList_load_blk rfl 29 (.tmp 3) rfl w.heap.size 0 rfl (mc M) _ (hB) 98 F2.out _ Try.underlying29 rfl size_mach ?_; rw [F1.out]) | (go_at_call 25; refine (areGroupWords_calls M hok _ zs1 _ zs2 _ hv1B hv2B).mono ?_; rintro e w1 ⟨rfl, hb1⟩; rw [hm]; have hv1C := hv1B.below hb1; have hv2C := hv2B.below hb1; have hbw1 := below_step hbw0 hb1) | (go_at_call 28; first | (refine (turnWord_calls _ zs2 _ hv2D (by omega) hs2.out).mono ?_; rintro e w3 ⟨v4, rfl, hO4, hb3⟩; obtain ⟨oa4, ca4, rfl, q4⟩ := hO4.view; clear q4; have hL := seesL4 (hS3.below hb3) hO4.sees (hv1D.below hb3) (hv2D.below hb3); have hbw3 := below_step hbw2 hb3; have hbw := below_alloc' hbw3 (.cells #[Value.slice oa3 (turnI zs1).length ca3, Value.slice oa4 (turnI zs2).length ca4, Value.slice oa1 zs1.length ca1, Value.slice oa2 zs2.length ca2] 26)) | (refine (turnWord_calls _ zs1 _ hv1C (by omega) hs1.out).mono ?_; rintro e w2 ⟨v3, rfl, hO3, hb2⟩; obtain ⟨oa3, ca3, rfl, q3⟩ := hO3.view; clear q3; have hS3 := hO3.sees; have hv1D := hv1C.below hb2; have hv2D := hv2C.below hb2; have hbw2 := below_step hbw1 hb2)) | (go_at_call 27; refine (joinWords_four _ _ _ _ _ zs1 zs2 hk1 hk2 _ hL).mono ?_; rintro e w5 ⟨v5, rfl, hO, hb5⟩))
      go_ret2
      exact ⟨_, ret_vi Hc.out.symm, by rw [Hr.out]; exact hO.base_le hbw.size, below_step hbw hb5⟩
    · have Hc : Hid (comC M zs1 zs2 = 3) := Lib.hid (by simp [comC, hm, toldC, comW_len, h40])
      have Hr : Hid (comR M zs1 zs2 = []) := Lib.hid (by simp [comR, hm, toldR, comW_len, h40])
      have hgt : 40 < 2 * ((zs1.length : Int) + (zs2.length : Int)) := by omega
      unfold two at hm
      go_enter Try.func17, Try.ntmps17
      go_wp2_with (first | (with_reducible show wpList _ _ _ _ _ _; refine wpList_load_blk rfl 29 (.tmp 3) rfl w.heap.size 0 rfl (mc M) _ (hB) 98 F2.out _ Try.underlying29 rfl size_mach ?_; rw [F1.out]) | (go_at_call 25; refine (areGroupWords_calls M hok _ zs1 _ zs2 _ hv1B hv2B).mono ?_; rintro e w1 ⟨rfl, hb1⟩; rw [hm]))
      go_ret2
      exact ⟨_, ret_vi Hc.out.symm, by rw [Hr.out]; exact OwnI.nil _ _, by (repeat (first | exact Below.refl _ _ | refine below_drew' ?_ | refine below_drewN' ?_ _ | refine below_alloc' ?_ _ | refine below_set' ?_ (by (try simp); (try omega)) _ | refine below_step ?_ (by assumption)))⟩
end Go.Proofs.Ytlclhjpnnlgjfaa
