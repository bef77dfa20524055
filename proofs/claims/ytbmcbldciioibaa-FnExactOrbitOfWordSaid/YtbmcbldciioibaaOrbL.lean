/- 'OrbitOfWord', program and model, for every input, and the statement on it, walked. -/
import Derived.Test.YtbmcbldciioibaaOrbS
import Derived.Test.YtbmcbldciioibaaLevL
namespace Go.Proofs.Ytbmcbldciioibaa
open Go.RowKit

def orbCode (M : Mach) (q : Int) (s : ByteArray) : Int := if walkCode M q s ≠ 0 then walkCode M q s else if 5 < s.size then 3 else 0
def orbRes (M : Mach) (q : Int) (s : ByteArray) : List ByteArray := if orbCode M q s = 0 then orbK M q.toNat s.data.toList (orbN M q.toNat s.data.toList) else []
theorem orbRes_len {M : Mach} (hok : M.Ok) (q : Int) (s : ByteArray) : (orbRes M q s).length ≤ 243 := by
  unfold orbRes
  split
  · rename_i h
    unfold orbCode at h
    split at h
    · rename_i h1; exact absurd h h1
    · rename_i h1
      split at h
      · cases h
      · rename_i h5
        obtain ⟨L, S, qn, hg, rfl, hq, _, hl⟩ := walk_good hok (by simpa using h1)
        rw [orbK_len, Int.toNat_natCast]
        exact (hg.orb qn hq s.data.toList hl (by rw [← size_list s]; omega)).2.1
  · simp

set_option maxRecDepth 100000 in
set_option maxHeartbeats 600000 in
theorem iOrbit_calls (M : Mach) (hok : M.Ok) (q : Int) (s : ByteArray) (hs : s.size ≤ 1048576) (w : World) :
    Calls Try.prog 31 #[.agg (mc M), .int .i64 q, .string s] w fun e w' => ∃ v, e = .returned (.tuple #[v, .int .i64 (orbCode M q s)]) ∧ OwnS w' w.heap.size v (orbRes M q s) ∧ Below w.heap.size w w' := by
  have F1 : Hid (cut (mc M) 0 98 = mc M) := Lib.hid (cut_all _ _ (mc_size hok)); have F2 : Hid (0 + 98 ≤ (mc M).size) := Lib.hid (by rw [mc_size hok]; omega)
  have hB : Blk (w.alloc (.cells (mc M) 27)) w.heap.size (mc M) 27 := Blk.new w _ _
  by_cases hc : walkCode M q s = 0
  · by_cases h5 : s.size ≤ 5
    · obtain ⟨L, S, qn, hg, rfl, hq, hs40, hl⟩ := walk_good hok hc
      have hcd : orbCode M qn s = 0 := by unfold orbCode; rw [if_neg (by simp [hc]), if_neg (by omega)]
      have hrs : orbRes M qn s = orbK M qn s.data.toList (orbN M qn s.data.toList) := by unfold orbRes; rw [if_pos hcd, Int.toNat_natCast]
      rw [hcd, hrs]
      exact iOrbit_good M L S hg qn hq s h5 hl hc w
    · have hcd : Hid (orbCode M q s = 3) := Lib.hid (by unfold orbCode; rw [if_neg (by simp [hc]), if_pos (by omega)])
      have hrs : Hid (orbRes M q s = []) := Lib.hid (by unfold orbRes; rw [if_neg (by rw [hcd.out]; decide)])
      have hs5' : ((5 : Int) < s.size) := by omega
      have Hc := Lib.hid hc; clear hc
      go_enter Try.func31, Try.ntmps31
      go_wp2_with (first | (with_reducible show wpList _ _ _ _ _ _; refine wpList_load_blk rfl 27 (.tmp 3) rfl w.heap.size 0 rfl (mc M) _ (hB) 98 F2.out _ Try.underlying27 rfl size_mach ?_; rw [F1.out]) | (go_at_call 64; refine (checkWalk_calls M hok q s hs _).mono ?_; rintro e w1 ⟨rfl, hb1⟩; rw [Hc.out]))
      go_ret2
      exact ⟨_, ret_vi hcd.out.symm, by rw [hrs.out]; exact OwnS.nil _ _, by (repeat (first | exact Below.refl _ _ | refine below_drew' ?_ | refine below_drewN' ?_ _ | refine below_alloc' ?_ _ | refine below_set' ?_ (by (try simp); (try omega)) _ | refine below_step ?_ (by assumption)))⟩
  · have hcd : Hid (orbCode M q s = walkCode M q s) := Lib.hid (by unfold orbCode; rw [if_pos hc])
    have hrs : Hid (orbRes M q s = []) := Lib.hid (by unfold orbRes; rw [if_neg (by rw [hcd.out]; exact hc)])
    have hcb : (walkCode M q s != 0) = true := by simp [hc]
    clear hc
    go_enter Try.func31, Try.ntmps31
    go_wp2_with (first | (with_reducible show wpList _ _ _ _ _ _; refine wpList_load_blk rfl 27 (.tmp 3) rfl w.heap.size 0 rfl (mc M) _ (hB) 98 F2.out _ Try.underlying27 rfl size_mach ?_; rw [F1.out]) | (go_at_call 64; refine (checkWalk_calls M hok q s hs _).mono ?_; rintro e w1 ⟨rfl, hb1⟩))
    go_ret2
    exact ⟨_, ret_vi hcd.out.symm, by rw [hrs.out]; exact OwnS.nil _ _, by (repeat (first | exact Below.refl _ _ | refine below_drew' ?_ | refine below_drewN' ?_ _ | refine below_alloc' ?_ _ | refine below_set' ?_ (by (try simp); (try omega)) _ | refine below_step ?_ (by assumption)))⟩

set_option maxRecDepth 100000 in
set_option maxHeartbeats 600000 in
theorem sOrbit_calls (M : Mach) (hok : M.Ok) (q : Int) (s : ByteArray) (hs : s.size ≤ 1048576) (w : World) :
    Calls Try.prog 32 #[.agg (mc M), .int .i64 q, .string s] w fun e w' => ∃ v, e = .returned (.tuple #[v, .int .i64 (orbCode M q s)]) ∧ OwnS w' w.heap.size v (orbRes M q s) ∧ Below w.heap.size w w' := by
  have F1 : Hid (cut (mc M) 0 98 = mc M) := Lib.hid (cut_all _ _ (mc_size hok)); have F2 : Hid (0 + 98 ≤ (mc M).size) := Lib.hid (by rw [mc_size hok]; omega)
  have hB : Blk (w.alloc (.cells (mc M) 27)) w.heap.size (mc M) 27 := Blk.new w _ _
  by_cases hc : walkCode M q s = 0
  · by_cases h5 : s.size ≤ 5
    · obtain ⟨L, S, qn, hg, rfl, hq, hs40, hl⟩ := walk_good hok hc
      have hcd : orbCode M qn s = 0 := by unfold orbCode; rw [if_neg (by simp [hc]), if_neg (by omega)]
      have hrs : orbRes M qn s = orbK M qn s.data.toList (orbN M qn s.data.toList) := by unfold orbRes; rw [if_pos hcd, Int.toNat_natCast]
      rw [hcd, hrs]
      exact sOrbit_good M L S hg qn hq s h5 hl hc w
    · have hcd : Hid (orbCode M q s = 3) := Lib.hid (by unfold orbCode; rw [if_neg (by simp [hc]), if_pos (by omega)])
      have hrs : Hid (orbRes M q s = []) := Lib.hid (by unfold orbRes; rw [if_neg (by rw [hcd.out]; decide)])
      have hs5' : ((5 : Int) < s.size) := by omega
      have Hc := Lib.hid hc; clear hc
      go_enter Try.func32, Try.ntmps32
      go_wp2_with (first | (with_reducible show wpList _ _ _ _ _ _; refine wpList_load_blk rfl 27 (.tmp 3) rfl w.heap.size 0 rfl (mc M) _ (hB) 98 F2.out _ Try.underlying27 rfl size_mach ?_; rw [F1.out]) | (go_at_call 66; refine (l01Code_calls M hok q s hs _).mono ?_; rintro e w1 ⟨rfl, hb1⟩; rw [Hc.out]))
      go_ret2
      exact ⟨_, ret_vi hcd.out.symm, by rw [hrs.out]; exact OwnS.nil _ _, by (repeat (first | exact Below.refl _ _ | refine below_drew' ?_ | refine below_drewN' ?_ _ | refine below_alloc' ?_ _ | refine below_set' ?_ (by (try simp); (try omega)) _ | refine below_step ?_ (by assumption)))⟩
  · have hcd : Hid (orbCode M q s = walkCode M q s) := Lib.hid (by unfold orbCode; rw [if_pos hc])
    have hrs : Hid (orbRes M q s = []) := Lib.hid (by unfold orbRes; rw [if_neg (by rw [hcd.out]; exact hc)])
    have hcb : (walkCode M q s != 0) = true := by simp [hc]
    clear hc
    go_enter Try.func32, Try.ntmps32
    go_wp2_with (first | (with_reducible show wpList _ _ _ _ _ _; refine wpList_load_blk rfl 27 (.tmp 3) rfl w.heap.size 0 rfl (mc M) _ (hB) 98 F2.out _ Try.underlying27 rfl size_mach ?_; rw [F1.out]) | (go_at_call 66; refine (l01Code_calls M hok q s hs _).mono ?_; rintro e w1 ⟨rfl, hb1⟩))
    go_ret2
    exact ⟨_, ret_vi hcd.out.symm, by rw [hrs.out]; exact OwnS.nil _ _, by (repeat (first | exact Below.refl _ _ | refine below_drew' ?_ | refine below_drewN' ?_ _ | refine below_alloc' ?_ _ | refine below_set' ?_ (by (try simp); (try omega)) _ | refine below_step ?_ (by assumption)))⟩
end Go.Proofs.Ytbmcbldciioibaa
