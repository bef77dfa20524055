/- The statement on 'DoRelationsHold', walked. -/
import Derived.Test.YtkhpfjamkkicoaaRel
import Derived.Test.YtkhpfjamkkicoaaArL
import Derived.Test.YtkhpfjamkkicoaaConv
namespace Go.Proofs.Ytkhpfjamkkicoaa
open Go.RowKit

def relZ (M : Mach) (zss : List (List Int)) : Bool × Int := relR M (zss.map fun z => (undef, z))
theorem hldU_map (M : Mach) : ∀ (ps qs : List (Value × List Int)), ps.map (·.2) = qs.map (·.2) → hldU M ps = hldU M qs
  | [], [], _ => rfl
  | [], _ :: _, h => by simp at h
  | _ :: _, [], h => by simp at h
  | p :: r, q :: s, h => by
    simp only [List.map_cons, List.cons.injEq] at h
    unfold hldU
    rw [h.1, hldU_map M r s h.2]
theorem relR_map (M : Mach) (ps qs : List (Value × List Int)) (h : ps.map (·.2) = qs.map (·.2)) : relR M ps = relR M qs := by
  have hg : grpsOk M.S ps = grpsOk M.S qs := by
    have e : ∀ l : List (Value × List Int), grpsOk M.S l = (l.map (·.2)).all (grpOk M.S) := fun l => by unfold grpsOk; rw [List.all_map]; rfl
    rw [e, e, h]
  unfold relR
  rw [hg, hldU_map M ps qs h]
theorem relR_zip (M : Mach) (vs : List Value) (zss : List (List Int)) (h : vs.length = zss.length) : relR M (vs.zip zss) = relZ M zss := by
  refine relR_map M _ _ ?_
  rw [List.map_snd_zip (by omega), List.map_map]
  exact (List.map_id _).symm
theorem sRel_calls (M : Mach) (hok : M.Ok) {base g n : Nat} {vs : List Value} {zss : List (List Int)} (hn : zss.length ≤ 1048576) (w : World) (h : OwnLV w base (.slice (some ⟨g, 0, none⟩) n n) vs zss) :
    Calls Try.prog 13 #[.agg (mc M), .slice (some ⟨g, 0, none⟩) n n] w fun e w' => e = .returned (.tuple #[.bool (relZ M zss).1, .int .i64 (relZ M zss).2]) ∧ Below w.heap.size w w' := by
  have h1 := sDoRelationsHold_calls M hok _ (vs.zip zss) (by have := h.len; simp; omega) w h.seesL
  rw [relR_zip M vs zss h.len] at h1
  exact h1
theorem iRel_calls (M : Mach) (hok : M.Ok) {base g n : Nat} {vs : List Value} {zss : List (List Int)} (hn : zss.length ≤ 1048576) (w : World) (h : OwnLV w base (.slice (some ⟨g, 0, none⟩) n n) vs zss) :
    Calls Try.prog 15 #[.agg (mc M), .slice (some ⟨g, 0, none⟩) n n] w fun e w' => e = .returned (.tuple #[.bool (relZ M zss).1, .int .i64 (relZ M zss).2]) ∧ Below w.heap.size w w' := by
  have h1 := iDoRelationsHold_calls M hok _ (vs.zip zss) (by have := h.len; simp; omega) w h.seesL
  rw [relR_zip M vs zss h.len] at h1
  exact h1

set_option linter.unusedVariables false in
set_option maxRecDepth 100000 in
set_option maxHeartbeats 4000000 in
theorem lawDoRelationsHold (M : Mach) (hok : M.Ok) (v1 : Value) (ps : List (Value × List Int)) (w : World) (ha1 : ArgL w v1 ps) :
    Calls Try.prog 4 #[.agg (mc M), v1] w fun e w' => e = .returned (.bool true) ∧ Below w.heap.size w w' := by
  obtain ⟨oa1, ca1, rfl, hc01⟩ := ha1.2.1; clear hc01
  have F1 : Hid (cut (mc M) 0 98 = mc M) := Lib.hid (cut_all _ _ (mc_size hok)); have F2 : Hid (0 + 98 ≤ (mc M).size) := Lib.hid (by rw [mc_size hok]; omega)
  have hB : Blk (w.alloc (.cells (mc M) 25)) w.heap.size (mc M) 25 := Blk.new w _ _
  have hbw0 : Below w.heap.size w (w.alloc (.cells (mc M) 25)) := by (repeat (first | exact Below.refl _ _ | refine below_drew' ?_ | refine below_drewN' ?_ _ | refine below_alloc' ?_ _ | refine below_set' ?_ (by (try simp); (try omega)) _ | refine below_step ?_ (by assumption)))
  have hB_0 := hB; clear hB
  have hA_0 := ha1.below hbw0
  clear ha1
  obtain ⟨sz, hsz⟩ : ∃ z, szLs ps 1048576 = z := ⟨_, rfl⟩
  have Hsz := Lib.hid hsz
  by_cases hs : sz < 0
  · clear hsz
    go_enter Try.func4, Try.ntmps4
    go_wp2_with (first | (with_reducible show wpList _ _ _ _ _ _; refine wpList_load_blk rfl 25 _ rfl w.heap.size 0 rfl (mc M) _ (hB_0) 98 F2.out _ Try.underlying25 rfl size_lmach ?_; rw [F1.out]) | (go_at_call 12; refine (szInt64SS_calls _ ps _ hA_0 1048576 (by omega) (by omega)).mono ?_; rintro e w' ⟨rfl, rfl⟩; rw [Hsz.out]))
    go_ret
    exact ⟨rfl, hbw0⟩
  have hle := szLs_le (ps := ps) (n := 1048576) (by omega)
  have hn : ps.length ≤ 1048576 := by have := hle.1; omega
  have hz : ∀ p ∈ ps, p.2.length ≤ 1048576 := fun p hp => by have := hle.2 p hp; omega
  have hnz : (ps.map (·.2)).length ≤ 1048576 := by rw [List.length_map]; exact hn
  have Hz := Lib.hid hz; have Hnz := Lib.hid hnz
  clear hsz hle hz hnz
  go_enter Try.func4, Try.ntmps4
  go_wp2_with (first | (with_reducible show wpList _ _ _ _ _ _; refine wpList_load_blk rfl 25 _ rfl w.heap.size 0 rfl (mc M) _ (by first | exact hB_1 | exact hB_0) 98 F2.out _ Try.underlying25 rfl size_lmach ?_; rw [F1.out]) | (go_at_call 12; refine (szInt64SS_calls _ ps _ hA_0 1048576 (by omega) (by omega)).mono ?_; rintro e w' ⟨rfl, rfl⟩; rw [Hsz.out]) | (go_at_call 8; refine (toMachine_calls M hok _).mono ?_; rintro e w1 ⟨rfl, hb1⟩; have hbw1 := below_step hbw0 hb1; have hB_1 := hB_0.keptAll hb1; have hA_1 := hA_0.below hb1; clear hbw0 hb1 hB_0 hA_0))
  go_wp2_with (first | (with_reducible show wpList _ _ _ _ _ _; refine wpList_load_blk rfl 25 _ rfl w.heap.size 0 rfl (mc M) _ (by first | exact hB_2 | exact hB_1) 98 F2.out _ Try.underlying25 rfl size_lmach ?_; rw [F1.out]) | (go_at_call 14; refine (toInt64SS_calls _ ps _ hA_1 hn Hz.out).mono ?_; rintro e w2 ⟨vs2, rfl, hO2, hb2⟩; have hbw2 := below_step hbw1 hb2; have hB_2 := hB_1.keptAll hb2; have hA_2 := hA_1.below hb2; clear hbw1 hb2 hB_1 hA_1))
  go_wp2_with (first | (with_reducible show wpList _ _ _ _ _ _; refine wpList_load_blk rfl 25 _ rfl w.heap.size 0 rfl (mc M) _ (by first | exact hB_3 | exact hB_2) 98 F2.out _ Try.underlying25 rfl size_lmach ?_; rw [F1.out]) | (go_at_call 13; refine (sRel_calls M hok Hnz.out _ hO2).mono ?_; rintro e w3 ⟨rfl, hb3⟩; have hbw3 := below_step hbw2 hb3; have hB_3 := hB_2.keptAll hb3; have hA_3 := hA_2.below hb3; clear hbw2 hb3 hB_2 hA_2 hO2))
  go_wp2_with (first | (with_reducible show wpList _ _ _ _ _ _; refine wpList_load_blk rfl 25 _ rfl w.heap.size 0 rfl (mc M) _ (by first | exact hB_4 | exact hB_3) 98 F2.out _ Try.underlying25 rfl size_lmach ?_; rw [F1.out]) | (go_at_call 14; refine (toInt64SS_calls _ ps _ hA_3 hn Hz.out).mono ?_; rintro e w4 ⟨vs4, rfl, hO4, hb4⟩; have hbw4 := below_step hbw3 hb4; have hB_4 := hB_3.keptAll hb4; have hA_4 := hA_3.below hb4; clear hbw3 hb4 hB_3 hA_3))
  go_wp2_with (first | (with_reducible show wpList _ _ _ _ _ _; refine wpList_load_blk rfl 25 _ rfl w.heap.size 0 rfl (mc M) _ (by first | exact hB_5 | exact hB_4) 98 F2.out _ Try.underlying25 rfl size_lmach ?_; rw [F1.out]) | (go_at_call 8; refine (toMachine_calls M hok _).mono ?_; rintro e w5 ⟨rfl, hb5⟩; have hbw5 := below_step hbw4 hb5; have hB_5 := hB_4.keptAll hb5; have hA_5 := hA_4.below hb5; have hO5 := hO4.below hb5; clear hbw4 hb5 hB_4 hA_4 hO4))
  go_wp2_with (first | (with_reducible show wpList _ _ _ _ _ _; refine wpList_load_blk rfl 25 _ rfl w.heap.size 0 rfl (mc M) _ (by first | exact hB_6 | exact hB_5) 98 F2.out _ Try.underlying25 rfl size_lmach ?_; rw [F1.out]) | (go_at_call 15; refine (iRel_calls M hok Hnz.out _ hO5).mono ?_; rintro e w6 ⟨rfl, hb6⟩; have hbw6 := below_step hbw5 hb6; have hA_6 := hA_5.below hb6; have hO6 := hO5.below hb6; clear hbw5 hb6 hB_5 hA_5 hO5))
  go_wp2_with (go_at_call 14; refine (toInt64SS_calls _ ps _ hA_6 hn Hz.out).mono ?_; rintro e w7 ⟨vs7, rfl, hO7, hb7⟩; have hbw7 := below_step hbw6 hb7; have hP7 := hO6.below hb7; clear hbw6 hb7 hA_6 hO6)
  go_wp2_with (go_at_call 16; refine (eqInt64SS_same _ _ _ _ _ _ _ _ hP7 hO7).mono ?_; rintro e w8 ⟨rfl, hb8⟩; have hbw8 := below_step hbw7 hb8)
  go_ret
  exact ⟨rfl, hbw8⟩
end Go.Proofs.Ytkhpfjamkkicoaa
