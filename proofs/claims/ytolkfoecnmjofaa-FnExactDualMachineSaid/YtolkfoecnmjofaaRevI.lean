/- 'IsReversible' and 'IsBireversible', both. -/
import Derived.Test.YtolkfoecnmjofaaRev
import Derived.Test.YtolkfoecnmjofaaInvG
namespace Go.Proofs.Ytolkfoecnmjofaa
open Go.RowKit

def revR (M : Mach) : Bool := isMach M && revB M M.L.toNat M.S.toNat
def birR (M : Mach) : Bool := isMach M && (revB M M.L.toNat M.S.toNat && revB (invM M M.L.toNat M.S.toNat) M.L.toNat M.S.toNat)
def machC (M : Mach) : Int := if isMach M then 0 else 1
theorem ret_bi {a b : Bool} {m m' : Int} (h : a = b) (h' : m = m') : Ending.returned (.tuple #[.bool a, .int .i64 m]) = Ending.returned (.tuple #[.bool b, .int .i64 m']) := by rw [h, h']

set_option maxRecDepth 100000 in
set_option maxHeartbeats 2000000 in
theorem sIsReversible_calls (M : Mach) (hok : M.Ok) (w : World) :
    Calls Try.prog 13 #[.agg (mc M)] w fun e w' => e = .returned (.tuple #[.bool (revR M), .int .i64 (machC M)]) ∧ Below w.heap.size w w' := by
  have F1 : Hid (cut (mc M) 0 98 = mc M) := Lib.hid (cut_all _ _ (mc_size hok)); have F2 : Hid (0 + 98 ≤ (mc M).size) := Lib.hid (by rw [mc_size hok]; omega)
  have hB : Blk (w.alloc (.cells (mc M) 28)) w.heap.size (mc M) 28 := Blk.new w _ _
  have hbw0 : Below w.heap.size w (w.alloc (.cells (mc M) 28)) := by (repeat (first | exact Below.refl _ _ | refine below_drew' ?_ | refine below_drewN' ?_ _ | refine below_alloc' ?_ _ | refine below_set' ?_ (by (try simp); (try omega)) _ | refine below_step ?_ (by assumption)))
  cases hm : isMach M
  · have Hc : Hid (machC M = 1) := Lib.hid (by simp [machC, hm])
    have Hr : Hid (revR M = false) := Lib.hid (by simp [revR, hm])
    go_enter Try.func13, Try.ntmps13
    go_wp2_with (first | (with_reducible show wpList _ _ _ _ _ _; refine wpList_load_blk rfl 28 (.tmp 1) rfl w.heap.size 0 rfl (mc M) _ (hB) 98 F2.out _ Try.underlying28 rfl size_mach ?_; rw [F1.out]) | (go_at_call 35; refine (l01Is_calls M hok _).mono ?_; rintro e w1 ⟨rfl, hb1⟩; rw [hm]; have hbw1 := below_step hbw0 hb1))
    go_ret2
    exact ⟨ret_bi Hr.out.symm Hc.out.symm, hbw1⟩
  · obtain ⟨L, S, hg⟩ := Good.of hok hm
    have Hc : Hid (machC M = 0) := Lib.hid (by simp [machC, hm])
    have Hr : Hid (revR M = revB M L S) := Lib.hid (by simp [revR, hm, hg.hL, hg.hS])
    go_enter Try.func13, Try.ntmps13
    go_wp2_with (first | (with_reducible show wpList _ _ _ _ _ _; refine wpList_load_blk rfl 28 (.tmp 1) rfl w.heap.size 0 rfl (mc M) _ (by first | exact hB1 | exact hB) 98 F2.out _ Try.underlying28 rfl size_mach ?_; rw [F1.out]) | (go_at_call 35; refine (l01Is_calls M hok _).mono ?_; rintro e w1 ⟨rfl, hb1⟩; rw [hm]; have hB1 := hB.keptAll hb1; have hbw1 := below_step hbw0 hb1) | (go_at_call 36; refine (l07Reversible_calls M L S hg _).mono ?_; rintro e w2 ⟨rfl, hb2⟩; have hbw2 := below_step hbw1 hb2))
    go_ret2
    exact ⟨ret_bi Hr.out.symm Hc.out.symm, hbw2⟩

set_option maxRecDepth 100000 in
set_option maxHeartbeats 2000000 in
theorem iIsReversible_calls (M : Mach) (hok : M.Ok) (w : World) :
    Calls Try.prog 15 #[.agg (mc M)] w fun e w' => e = .returned (.tuple #[.bool (revR M), .int .i64 (machC M)]) ∧ Below w.heap.size w w' := by
  have F1 : Hid (cut (mc M) 0 98 = mc M) := Lib.hid (cut_all _ _ (mc_size hok)); have F2 : Hid (0 + 98 ≤ (mc M).size) := Lib.hid (by rw [mc_size hok]; omega)
  have hB : Blk (w.alloc (.cells (mc M) 28)) w.heap.size (mc M) 28 := Blk.new w _ _
  have hbw0 : Below w.heap.size w (w.alloc (.cells (mc M) 28)) := by (repeat (first | exact Below.refl _ _ | refine below_drew' ?_ | refine below_drewN' ?_ _ | refine below_alloc' ?_ _ | refine below_set' ?_ (by (try simp); (try omega)) _ | refine below_step ?_ (by assumption)))
  cases hm : isMach M
  · have Hc : Hid (machC M = 1) := Lib.hid (by simp [machC, hm])
    have Hr : Hid (revR M = false) := Lib.hid (by simp [revR, hm])
    go_enter Try.func15, Try.ntmps15
    go_wp2_with (first | (with_reducible show wpList _ _ _ _ _ _; refine wpList_load_blk rfl 28 (.tmp 1) rfl w.heap.size 0 rfl (mc M) _ (hB) 98 F2.out _ Try.underlying28 rfl size_mach ?_; rw [F1.out]) | (go_at_call 38; refine (IsMachine_calls M hok _).mono ?_; rintro e w1 ⟨rfl, hb1⟩; rw [hm]; have hbw1 := below_step hbw0 hb1))
    go_ret2
    exact ⟨ret_bi Hr.out.symm Hc.out.symm, hbw1⟩
  · obtain ⟨L, S, hg⟩ := Good.of hok hm
    have Hc : Hid (machC M = 0) := Lib.hid (by simp [machC, hm])
    have Hr : Hid (revR M = revB M L S) := Lib.hid (by simp [revR, hm, hg.hL, hg.hS])
    go_enter Try.func15, Try.ntmps15
    go_wp2_with (first | (with_reducible show wpList _ _ _ _ _ _; refine wpList_load_blk rfl 28 (.tmp 1) rfl w.heap.size 0 rfl (mc M) _ (by first | exact hB1 | exact hB) 98 F2.out _ Try.underlying28 rfl size_mach ?_; rw [F1.out]) | (go_at_call 38; refine (IsMachine_calls M hok _).mono ?_; rintro e w1 ⟨rfl, hb1⟩; rw [hm]; have hB1 := hB.keptAll hb1; have hbw1 := below_step hbw0 hb1) | (go_at_call 39; refine (leadsStatesApart_calls M L S hg _).mono ?_; rintro e w2 ⟨rfl, hb2⟩; have hbw2 := below_step hbw1 hb2))
    go_ret2
    exact ⟨ret_bi Hr.out.symm Hc.out.symm, hbw2⟩

set_option maxRecDepth 100000 in
set_option maxHeartbeats 2000000 in
theorem sIsBireversible_calls (M : Mach) (hok : M.Ok) (w : World) :
    Calls Try.prog 16 #[.agg (mc M)] w fun e w' => e = .returned (.tuple #[.bool (birR M), .int .i64 (machC M)]) ∧ Below w.heap.size w w' := by
  have F1 : Hid (cut (mc M) 0 98 = mc M) := Lib.hid (cut_all _ _ (mc_size hok)); have F2 : Hid (0 + 98 ≤ (mc M).size) := Lib.hid (by rw [mc_size hok]; omega)
  have hB : Blk (w.alloc (.cells (mc M) 28)) w.heap.size (mc M) 28 := Blk.new w _ _
  have hbw0 : Below w.heap.size w (w.alloc (.cells (mc M) 28)) := by (repeat (first | exact Below.refl _ _ | refine below_drew' ?_ | refine below_drewN' ?_ _ | refine below_alloc' ?_ _ | refine below_set' ?_ (by (try simp); (try omega)) _ | refine below_step ?_ (by assumption)))
  cases hm : isMach M
  · have Hc : Hid (machC M = 1) := Lib.hid (by simp [machC, hm])
    have Hr : Hid (birR M = false) := Lib.hid (by simp [birR, hm])
    go_enter Try.func16, Try.ntmps16
    go_wp2_with (first | (with_reducible show wpList _ _ _ _ _ _; refine wpList_load_blk rfl 28 (.tmp 1) rfl w.heap.size 0 rfl (mc M) _ (hB) 98 F2.out _ Try.underlying28 rfl size_mach ?_; rw [F1.out]) | (go_at_call 35; refine (l01Is_calls M hok _).mono ?_; rintro e w1 ⟨rfl, hb1⟩; rw [hm]; have hbw1 := below_step hbw0 hb1))
    go_ret2
    exact ⟨ret_bi Hr.out.symm Hc.out.symm, hbw1⟩
  · obtain ⟨L, S, hg⟩ := Good.of hok hm
    have Hc : Hid (machC M = 0) := Lib.hid (by simp [machC, hm])
    have Hr : Hid (birR M = (revB M L S && revB (invM M L S) L S)) := Lib.hid (by simp [birR, hm, hg.hL, hg.hS])
    have T1 := Lib.hid trivial
    cases hr : revB M L S
    · have Hr2 : Hid (birR M = false) := Lib.hid (by rw [Hr.out, hr]; rfl)
      go_enter Try.func16, Try.ntmps16
      go_wp2_with (first | (with_reducible show wpList _ _ _ _ _ _; refine wpList_load_blk rfl 28 (.tmp 1) rfl w.heap.size 0 rfl (mc M) _ (by first | exact hB1 | exact hB) 98 F2.out _ Try.underlying28 rfl size_mach ?_; rw [F1.out]) | (go_at_call 35; refine (l01Is_calls M hok _).mono ?_; rintro e w1 ⟨rfl, hb1⟩; rw [hm]; have hB1 := hB.keptAll hb1; have hbw1 := below_step hbw0 hb1) | (go_at_call 36; refine (l07Reversible_calls M L S hg _).mono ?_; rintro e w2 ⟨rfl, hb2⟩; rw [hr]; have hbw2 := below_step hbw1 hb2))
      go_ret2
      exact ⟨ret_bi Hr2.out.symm Hc.out.symm, hbw2⟩
    · have Hr2 : Hid (birR M = revB (invM M L S) L S) := Lib.hid (by rw [Hr.out, hr]; rfl)
      go_enter Try.func16, Try.ntmps16
      go_wp2_with (first | (with_reducible show wpList _ _ _ _ _ _; refine wpList_load_blk rfl 28 (.tmp 1) rfl w.heap.size 0 rfl (mc M) _ (by first | exact hB1 | exact hB) 98 F2.out _ Try.underlying28 rfl size_mach ?_; rw [F1.out]) | (go_at_call 35; refine (l01Is_calls M hok _).mono ?_; rintro e w1 ⟨rfl, hb1⟩; rw [hm]; have hB1 := hB.keptAll hb1; have hbw1 := below_step hbw0 hb1) | (clear T1; go_at_call 36; refine (l07Reversible_calls M L S hg _).mono ?_; rintro e w2 ⟨rfl, hb2⟩; rw [hr]; have hB2 := hB1.keptAll hb2; have hbw2 := below_step hbw1 hb2) | (with_reducible show wpList _ _ _ _ _ _; refine wpList_load_blk_g rfl 28 (.tmp 1) rfl w.heap.size 0 rfl (mc M) _ (hB2) 98 F2.out _ Try.underlying28 rfl size_mach ?_; rw [F1.out]) | (go_at_call 40; refine (l01Inverse_calls M L S hg _).mono ?_; rintro e w3 ⟨rfl, hb3⟩; have hbw3 := below_step hbw2 hb3) | (go_at_call 36; refine (l07Reversible_calls (invM M L S) L S hg.inv _).mono ?_; rintro e w4 ⟨rfl, hb4⟩; have hbw4 := below_step hbw3 hb4))
      go_ret2
      exact ⟨ret_bi Hr2.out.symm Hc.out.symm, hbw4⟩

set_option maxRecDepth 100000 in
set_option maxHeartbeats 2000000 in
theorem iIsBireversible_calls (M : Mach) (hok : M.Ok) (w : World) :
    Calls Try.prog 17 #[.agg (mc M)] w fun e w' => e = .returned (.tuple #[.bool (birR M), .int .i64 (machC M)]) ∧ Below w.heap.size w w' := by
  have F1 : Hid (cut (mc M) 0 98 = mc M) := Lib.hid (cut_all _ _ (mc_size hok)); have F2 : Hid (0 + 98 ≤ (mc M).size) := Lib.hid (by rw [mc_size hok]; omega)
  have hB : Blk (w.alloc (.cells (mc M) 28)) w.heap.size (mc M) 28 := Blk.new w _ _
  have hz := zero_mach
  have hbw0 : Below w.heap.size w (w.alloc (.cells (mc M) 28)) := by (repeat (first | exact Below.refl _ _ | refine below_drew' ?_ | refine below_drewN' ?_ _ | refine below_alloc' ?_ _ | refine below_set' ?_ (by (try simp); (try omega)) _ | refine below_step ?_ (by assumption)))
  have HzS : Hid ((mc zeroM).size = 98) := Lib.hid (mc_size zeroM_ok)
  cases hm : isMach M
  · have Hc : Hid (machC M = 1) := Lib.hid (by simp [machC, hm])
    have Hr : Hid (birR M = false) := Lib.hid (by simp [birR, hm])
    have hR : Hid (invRes M = zeroM) := Lib.hid (by simp [invRes, hm])
    have hC : Hid (invCode M = 1) := Lib.hid (by simp [invCode, hm])
    go_enter Try.func17, Try.ntmps17
    go_wp2_with (first | (with_reducible show wpList _ _ _ _ _ _; refine wpList_load_blk rfl 28 (.tmp 1) rfl w.heap.size 0 rfl (mc M) _ (hB) 98 F2.out _ Try.underlying28 rfl size_mach ?_; rw [F1.out]) | (go_at_call 41; refine (iInverseMachine_calls M hok _).mono ?_; rintro e w1 ⟨rfl, hb1⟩; rw [hR.out, hC.out]; have hbw1 := below_step hbw0 hb1; have hX : Blk (w1.alloc (.cells (mc zeroM) 28)) w1.heap.size (mc zeroM) 28 := Blk.new w1 _ _; have hbw2 := below_alloc' hbw1 (.cells (mc zeroM) 28); have hsz1 := hbw1.size) | (with_reducible show wpList _ _ _ _ _ _; refine wpList_store_blk rfl 28 (.tmp 4) (.tmp 9) rfl w1.heap.size 0 (mc zeroM) rfl rfl (mc zeroM) _ hX (by rw [HzS.out]; omega) (by rw [HzS.out]; exact size_mach) (mc_one _) ?_; intro w4 hb4 hkeep _ hbl; rw [zero_over] at hb4; have hbw4 := hbl _ _ hsz1 hbw2; clear hkeep hbl))
    go_ret2
    exact ⟨ret_bi Hr.out.symm Hc.out.symm, hbw4⟩
  · obtain ⟨L, S, hg⟩ := Good.of hok hm
    have Hc : Hid (machC M = 0) := Lib.hid (by simp [machC, hm])
    have Hr : Hid (birR M = (revB M L S && revB (invM M L S) L S)) := Lib.hid (by simp [birR, hm, hg.hL, hg.hS])
    have HI := Lib.hid (mc_size hg.inv.ok)
    have Hov : Hid (over (mc zeroM) 0 (mc (invM M L S)) = mc (invM M L S)) := Lib.hid (over_all _ _ (by rw [HI.out, HzS.out]))
    have I1 : Hid (cut (mc (invM M L S)) 0 98 = mc (invM M L S)) := Lib.hid (cut_all _ _ HI.out)
    have T1 := Lib.hid trivial
    cases hr : revB M L S
    · have Hr2 : Hid (birR M = false) := Lib.hid (by rw [Hr.out, hr]; rfl)
      go_enter Try.func17, Try.ntmps17
      go_wp2_with (first | (with_reducible show wpList _ _ _ _ _ _; refine wpList_load_blk rfl 28 (.tmp 1) rfl w.heap.size 0 rfl (mc M) _ (by first | exact hB4 | exact hB) 98 F2.out _ Try.underlying28 rfl size_mach ?_; rw [F1.out]) | (go_at_call 41; refine (iInverse_good M L S hg _).mono ?_; rintro e w1 ⟨rfl, hb1⟩; have hB1 := (hB.keptAll hb1).alloc (.cells (mc zeroM) 28); have hbw1 := below_step hbw0 hb1; have hX : Blk (w1.alloc (.cells (mc zeroM) 28)) w1.heap.size (mc zeroM) 28 := Blk.new w1 _ _; have hbw2 := below_alloc' hbw1 (.cells (mc zeroM) 28); have hsz1 := hbw1.size; have hlt1 := (hB.keptAll hb1).lt) | (with_reducible show wpList _ _ _ _ _ _; refine wpList_store_blk rfl 28 (.tmp 4) (.tmp 9) rfl w1.heap.size 0 (mc (invM M L S)) rfl rfl (mc zeroM) _ hX (by rw [HI.out, HzS.out]; omega) (by rw [HI.out]; exact size_mach) (mc_one _) ?_; intro w4 hb4 hkeep _ hbl; rw [Hov.out] at hb4; have hbw4 := hbl _ _ hsz1 hbw2; have hB4 := hkeep _ _ _ (by omega) hB1; clear hkeep hbl))
      go_wp2_with (first | (with_reducible show wpList _ _ _ _ _ _; refine wpList_load_blk rfl 28 (.tmp 1) rfl w.heap.size 0 rfl (mc M) _ (hB4) 98 F2.out _ Try.underlying28 rfl size_mach ?_; rw [F1.out]) | (go_at_call 39; refine (leadsStatesApart_calls M L S hg _).mono ?_; rintro e w5 ⟨rfl, hb5⟩; rw [hr]; have hbw5 := below_step hbw4 hb5))
      go_ret2
      exact ⟨ret_bi Hr2.out.symm Hc.out.symm, hbw5⟩
    · have Hr2 : Hid (birR M = revB (invM M L S) L S) := Lib.hid (by rw [Hr.out, hr]; rfl)
      go_enter Try.func17, Try.ntmps17
      go_wp2_with (first | (with_reducible show wpList _ _ _ _ _ _; refine wpList_load_blk rfl 28 (.tmp 1) rfl w.heap.size 0 rfl (mc M) _ (by first | exact hB4 | exact hB) 98 F2.out _ Try.underlying28 rfl size_mach ?_; rw [F1.out]) | (go_at_call 41; refine (iInverse_good M L S hg _).mono ?_; rintro e w1 ⟨rfl, hb1⟩; have hB1 := (hB.keptAll hb1).alloc (.cells (mc zeroM) 28); have hbw1 := below_step hbw0 hb1; have hX : Blk (w1.alloc (.cells (mc zeroM) 28)) w1.heap.size (mc zeroM) 28 := Blk.new w1 _ _; have hbw2 := below_alloc' hbw1 (.cells (mc zeroM) 28); have hsz1 := hbw1.size; have hlt1 := (hB.keptAll hb1).lt) | (with_reducible show wpList _ _ _ _ _ _; refine wpList_store_blk rfl 28 (.tmp 4) (.tmp 9) rfl w1.heap.size 0 (mc (invM M L S)) rfl rfl (mc zeroM) _ hX (by rw [HI.out, HzS.out]; omega) (by rw [HI.out]; exact size_mach) (mc_one _) ?_; intro w4 hb4 hkeep _ hbl; rw [Hov.out] at hb4; have hbw4 := hbl _ _ hsz1 hbw2; have hB4 := hkeep _ _ _ (by omega) hB1; clear hkeep hbl))
      go_wp2_with (first | (with_reducible show wpList _ _ _ _ _ _; refine wpList_load_blk rfl 28 (.tmp 1) rfl w.heap.size 0 rfl (mc M) _ (hB4) 98 F2.out _ Try.underlying28 rfl size_mach ?_; rw [F1.out]) | (clear T1; go_at_call 39; refine (leadsStatesApart_calls M L S hg _).mono ?_; rintro e w5 ⟨rfl, hb5⟩; rw [hr]; have hX5 := hb4.keptAll hb5; have hbw5 := below_step hbw4 hb5) | (with_reducible show wpList _ _ _ _ _ _; refine wpList_load_blk_g rfl 28 (.tmp 4) rfl w1.heap.size 0 rfl (mc (invM M L S)) _ hX5 98 (by rw [HI.out]; omega) _ Try.underlying28 rfl size_mach ?_; rw [I1.out]) | (go_at_call 39; refine (leadsStatesApart_calls (invM M L S) L S hg.inv _).mono ?_; rintro e w6 ⟨rfl, hb6⟩; have hbw6 := below_step hbw5 hb6))
      go_ret2
      exact ⟨ret_bi Hr2.out.symm Hc.out.symm, hbw6⟩
end Go.Proofs.Ytolkfoecnmjofaa
