/- 'ActiveAt': program and model. -/
import Derived.Test.YtdbdoohcpcjfdaaSfD
import Derived.Test.YtdbdoohcpcjfdaaLawC
import Derived.Test.YtdbdoohcpcjfdaaTriS
namespace Go.Proofs.Ytdbdoohcpcjfdaa
open Go.RowKit

def actvR (M : Mach) (q : Int) (s : ByteArray) : Bool := if walkCode M q s = 0 then !trivB M M.L.toNat M.S.toNat (runL M q.toNat s.data.toList).1 else false
theorem ret_boi {a b : Bool} {m m' : Int} (h : a = b) (h' : m = m') : Ending.returned (.tuple #[.bool a, .int .i64 m]) = Ending.returned (.tuple #[.bool b, .int .i64 m']) := by rw [h, h']
theorem actvR_good {M : Mach} {L S qn : Nat} {s : ByteArray} (hg : Good M L S) (h : walkCode M qn s = 0) : actvR M qn s = !trivB M L S (runL M qn s.data.toList).1 := by
  unfold actvR
  rw [if_pos h, hg.hL, hg.hS]
  rfl

set_option maxRecDepth 100000 in
set_option maxHeartbeats 1000000 in
theorem iActiveAt_calls (M : Mach) (hok : M.Ok) (q : Int) (s : ByteArray) (w : World) (hs : s.size ≤ 1048576) :
    Calls Try.prog 12 #[.agg (mc M), .int .i64 q, .string s] w fun e w' => e = .returned (.tuple #[.bool (actvR M q s), .int .i64 (walkCode M q s)]) ∧ Below w.heap.size w w' := by
  have F1 : Hid (cut (mc M) 0 98 = mc M) := Lib.hid (cut_all _ _ (mc_size hok)); have F2 : Hid (0 + 98 ≤ (mc M).size) := Lib.hid (by rw [mc_size hok]; omega)
  have hB : Blk (w.alloc (.cells (mc M) 28)) w.heap.size (mc M) 28 := Blk.new w _ _
  have hbw0 : Below w.heap.size w (w.alloc (.cells (mc M) 28)) := by (repeat (first | exact Below.refl _ _ | refine below_drew' ?_ | refine below_drewN' ?_ _ | refine below_alloc' ?_ _ | refine below_set' ?_ (by (try simp); (try omega)) _ | refine below_step ?_ (by assumption)))
  by_cases hc : walkCode M q s = 0
  · obtain ⟨L, S, qn, hg, rfl, hq, hs40, hl⟩ := walk_good hok hc
    have Hv := Lib.hid (actvR_good hg hc)
    have hcb : (walkCode M qn s != 0) = false := by simp [hc]
    have Hc := Lib.hid hc; clear hc
    have HA := Lib.hid (fun g W hB => isActive_calls M L S hg g qn hq s hs40 hl W hB)
    go_enter Try.func12, Try.ntmps12
    go_wp2_with (first | (with_reducible show wpList _ _ _ _ _ _; refine wpList_load_blk rfl 28 (.tmp 3) rfl w.heap.size 0 rfl (mc M) _ (by first | exact hB1 | exact hB) 98 F2.out _ Try.underlying28 rfl size_mach ?_; rw [F1.out]) | (go_at_call 32; refine (checkWalk_calls M hok qn s hs _).mono ?_; rintro e w1 ⟨rfl, hb1⟩; have hB1 := hB.keptAll hb1) | (go_at_call 33; refine (sectionsOf_calls M L S hg _).mono ?_; rintro e w2 ⟨g, rfl, hge, hG, hb2⟩) | (go_at_call 34; refine (HA.out g _ hG).mono ?_; rintro e w3 ⟨rfl, hb3⟩))
    go_ret2
    exact ⟨ret_boi Hv.out.symm Hc.out.symm, below_step (below_step (below_step hbw0 hb1) hb2) hb3⟩
  · have Hv : Hid (actvR M q s = false) := Lib.hid (by simp [actvR, hc])
    have hcb : (walkCode M q s != 0) = true := by simp [hc]
    clear hc
    go_enter Try.func12, Try.ntmps12
    go_wp2_with (first | (with_reducible show wpList _ _ _ _ _ _; refine wpList_load_blk rfl 28 (.tmp 3) rfl w.heap.size 0 rfl (mc M) _ (by first | exact hB1 | exact hB) 98 F2.out _ Try.underlying28 rfl size_mach ?_; rw [F1.out]) | (go_at_call 32; refine (checkWalk_calls M hok q s hs _).mono ?_; rintro e w1 ⟨rfl, hb1⟩; have hB1 := hB.keptAll hb1))
    go_ret2
    exact ⟨ret_boi Hv.out.symm rfl, below_step hbw0 hb1⟩

set_option maxRecDepth 100000 in
set_option maxHeartbeats 1000000 in
theorem sActiveAt_calls (M : Mach) (hok : M.Ok) (q : Int) (s : ByteArray) (w : World) (hs : s.size ≤ 1048576) :
    Calls Try.prog 10 #[.agg (mc M), .int .i64 q, .string s] w fun e w' => e = .returned (.tuple #[.bool (actvR M q s), .int .i64 (walkCode M q s)]) ∧ Below w.heap.size w w' := by
  have F1 : Hid (cut (mc M) 0 98 = mc M) := Lib.hid (cut_all _ _ (mc_size hok)); have F2 : Hid (0 + 98 ≤ (mc M).size) := Lib.hid (by rw [mc_size hok]; omega)
  have hB : Blk (w.alloc (.cells (mc M) 28)) w.heap.size (mc M) 28 := Blk.new w _ _
  have hz := zero_b16
  have Hz16 : Hid ((bl nob).size = 16) := Lib.hid (by rw [bl_size]; rfl)
  have hbw0 : Below w.heap.size w (w.alloc (.cells (mc M) 28)) := by (repeat (first | exact Below.refl _ _ | refine below_drew' ?_ | refine below_drewN' ?_ _ | refine below_alloc' ?_ _ | refine below_set' ?_ (by (try simp); (try omega)) _ | refine below_step ?_ (by assumption)))
  by_cases hc : walkCode M q s = 0
  · obtain ⟨L, S, qn, hg, rfl, hq, hs40, hl⟩ := walk_good hok hc
    have Hv := Lib.hid (actvR_good hg hc)
    have hcb : (walkCode M qn s != 0) = false := by simp [hc]
    have Hc := Lib.hid hc; clear hc
    have hr := hg.run_st qn hq s.data.toList hl
    have hS16 := hg.S16
    have HW := Lib.hid (l01Act_calls M L S hg qn hq s hs40 hl)
    have HT := Lib.hid (fun W => l01Trivial_calls M L S hg W)
    generalize (runL M qn s.data.toList).1 = p at *
    have hp16 : (p : Int) < 16 := by omega
    go_enter Try.func10, Try.ntmps10
    go_wp2_with (first | (with_reducible show wpList _ _ _ _ _ _; refine wpList_load_blk rfl 28 (.tmp 3) rfl w.heap.size 0 rfl (mc M) _ (by first | exact hB2 | exact hB1 | exact hB) 98 F2.out _ Try.underlying28 rfl size_mach ?_; rw [F1.out]) | (go_at_call 28; refine (l01Code_calls M hok qn s hs _).mono ?_; rintro e w1 ⟨rfl, hb1⟩; have hB1 := hB.keptAll hb1) | (go_at_call 29; refine (HW.out _).mono ?_; rintro e w2 ⟨rfl, hb2⟩; have hB2 := hB1.keptAll hb2) | (go_at_call 30; refine (HT.out _).mono ?_; rintro e w3 ⟨⟨l, rfl, hl, htl⟩, hb3⟩; have hX3 : Blk (w3.alloc (.cells (bl nob) 46)) w3.heap.size (bl nob) 46 := Blk.new _ _ _; have hbw3 := below_alloc' (below_step (below_step (below_step hbw0 hb1) hb2) hb3) (.cells (bl nob) 46); have Hls : Hid ((bl l).size = 16) := Lib.hid (by rw [bl_size, hl]); have Hlo : Hid (over (bl nob) 0 (bl l) = bl l) := Lib.hid (over_all _ _ (by rw [Hls.out, Hz16.out])); have e1 := bl_at l p (by rw [hl]; omega); rw [htl p hr] at e1; have hgl := (below_step (below_step (below_step hbw0 hb1) hb2) hb3).size) | (with_reducible show wpList _ _ _ _ _ _; refine wpList_store_row rfl 46 _ _ rfl w3.heap.size 0 (bl l) rfl rfl _ _ hX3 (by rw [Hls.out, Hz16.out]; omega) (by rw [Hls.out]; exact size_b16) (bl_one _) _ Hlo.out ?_; intro w4 hs4; have c4 := hs4.blk.cell p; rw [e1] at c4))
    go_ret2
    exact ⟨ret_boi Hv.out.symm Hc.out.symm, hs4.below _ _ (by omega) hbw3⟩
  · have Hv : Hid (actvR M q s = false) := Lib.hid (by simp [actvR, hc])
    have hcb : (walkCode M q s != 0) = true := by simp [hc]
    clear hc
    go_enter Try.func10, Try.ntmps10
    go_wp2_with (first | (with_reducible show wpList _ _ _ _ _ _; refine wpList_load_blk rfl 28 (.tmp 3) rfl w.heap.size 0 rfl (mc M) _ (by first | exact hB1 | exact hB) 98 F2.out _ Try.underlying28 rfl size_mach ?_; rw [F1.out]) | (go_at_call 28; refine (l01Code_calls M hok q s hs _).mono ?_; rintro e w1 ⟨rfl, hb1⟩; have hB1 := hB.keptAll hb1))
    go_ret2
    exact ⟨ret_boi Hv.out.symm rfl, below_step hbw0 hb1⟩
end Go.Proofs.Ytdbdoohcpcjfdaa
