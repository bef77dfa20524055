/- Both 'ImageOf's, both 'SectionOf's. -/
import Derived.Test.YticnpajbefflbaaLedP
import Derived.Test.YticnpajbefflbaaGrpP
import Derived.Test.YticnpajbefflbaaGrpX
import Derived.Test.YticnpajbefflbaaLawB
import Derived.Test.YticnpajbefflbaaInv
namespace Go.Proofs.Yticnpajbefflbaa
open Go.RowKit

def walkB (M : Mach) (zs : List Int) (s : ByteArray) : Bool := isGrp M zs && wordB M.L.toNat s
theorem walkB_no {M : Mach} {zs : List Int} {s : ByteArray} (h : isGrp M zs = false) : walkB M zs s = false := by simp [walkB, h]
theorem walkB_yes {M : Mach} {zs : List Int} {s : ByteArray} {L : Nat} (hL : M.L = L) (h : isGrp M zs = true) : walkB M zs s = wordB L s := by simp [walkB, h, hL]
theorem isGrp_mach {M : Mach} {zs : List Int} (h : isGrp M zs = true) : isMach M = true ∧ grpOk M.S zs = true := by simpa [isGrp] using h
theorem grpOk_nums {S : Int} {zs : List Int} (h : grpOk S zs = true) : zs.length ≤ 40 ∧ numsOk S zs = true := by simpa [grpOk] using h
/-- What may be walked. -/
structure Walks (M : Mach) (zs : List Int) (s : ByteArray) (L S : Nat) : Prop where
  g : Good M L S
  n : numsOk S zs = true
  l40 : zs.length ≤ 40
  s40 : s.size ≤ 40
  l : lettersL L s.data.toList = true
theorem walks_of {M : Mach} (hok : M.Ok) {zs : List Int} {s : ByteArray} (h : walkB M zs s = true) : ∃ L S, Walks M zs s L S := by
  simp only [walkB, Bool.and_eq_true] at h
  obtain ⟨h1, h2⟩ := isGrp_mach h.1
  obtain ⟨L, S, hg⟩ := Good.of hok h1
  rw [hg.hS] at h2
  have h3 := h.2
  rw [hg.hL, Int.toNat_natCast, wordB_iff] at h3
  exact ⟨L, S, hg, (grpOk_nums h2).2, (grpOk_nums h2).1, h3.1, h3.2⟩

set_option maxRecDepth 100000 in
set_option maxHeartbeats 1000000 in
theorem isWalkable_calls (M : Mach) (hok : M.Ok) (v : Value) (zs : List Int) (s : ByteArray) (w : World) (hv : SeesI w v zs) :
    Calls Try.prog 46 #[.agg (mc M), v, .string s] w fun e w' => e = .returned (.bool (walkB M zs s)) ∧ Below w.heap.size w w' := by
  have F1 : Hid (cut (mc M) 0 98 = mc M) := Lib.hid (cut_all _ _ (mc_size hok)); have F2 : Hid (0 + 98 ≤ (mc M).size) := Lib.hid (by rw [mc_size hok]; omega)
  have hB : Blk (w.alloc (.cells (mc M) 29)) w.heap.size (mc M) 29 := Blk.new w _ _
  have hcL := mc_L M
  have hvB := hv.below (w1 := w.alloc (.cells (mc M) 29)) (by (repeat (first | exact Below.refl _ _ | refine below_drew' ?_ | refine below_drewN' ?_ _ | refine below_alloc' ?_ _ | refine below_set' ?_ (by (try simp); (try omega)) _ | refine below_step ?_ (by assumption))))
  clear hv
  cases hm : isGrp M zs
  · have Hr := Lib.hid (walkB_no (s := s) hm)
    go_enter Try.func46, Try.ntmps46
    go_wp2_with (first | (with_reducible show wpList _ _ _ _ _ _; refine wpList_load_blk rfl 29 (.tmp 3) rfl w.heap.size 0 rfl (mc M) _ (hB) 98 F2.out _ Try.underlying29 rfl size_mach ?_; rw [F1.out]) | (go_at_call 61; refine (IsGroupWord_calls M hok _ zs _ hvB).mono ?_; rintro e w1 ⟨rfl, hb1⟩; rw [hm]))
    go_ret
    exact ⟨ret_bool Hr.out.symm, by (repeat (first | exact Below.refl _ _ | refine below_drew' ?_ | refine below_drewN' ?_ _ | refine below_alloc' ?_ _ | refine below_set' ?_ (by (try simp); (try omega)) _ | refine below_step ?_ (by assumption)))⟩
  · obtain ⟨L, S, hg⟩ := Good.of hok (isGrp_mach hm).1
    have hL3 := hg.L3
    rw [hg.hL] at hcL
    have Hr := Lib.hid (walkB_yes (s := s) hg.hL hm)
    clear hg
    go_enter Try.func46, Try.ntmps46
    go_wp2_with (first | (with_reducible show wpList _ _ _ _ _ _; refine wpList_load_blk rfl 29 (.tmp 3) rfl w.heap.size 0 rfl (mc M) _ (hB) 98 F2.out _ Try.underlying29 rfl size_mach ?_; rw [F1.out]) | (go_at_call 61; refine (IsGroupWord_calls M hok _ zs _ hvB).mono ?_; rintro e w1 ⟨rfl, hb1⟩; rw [hm]; have hB1 := hB.keptAll hb1; have cA := hB1.cell) | (go_at_call 74; refine (isWord_calls L s hL3 _).mono ?_; rintro e w' ⟨rfl, rfl⟩))
    go_ret
    exact ⟨ret_bool Hr.out.symm, by (repeat (first | exact Below.refl _ _ | refine below_drew' ?_ | refine below_drewN' ?_ _ | refine below_alloc' ?_ _ | refine below_set' ?_ (by (try simp); (try omega)) _ | refine below_step ?_ (by assumption)))⟩

/-- The code. -/
def bothC (M : Mach) (zs : List Int) (s : ByteArray) : Int := if walkB M zs s then 0 else 1
set_option maxRecDepth 100000 in
set_option maxHeartbeats 1000000 in
theorem l02Both_calls (M : Mach) (hok : M.Ok) (v : Value) (zs : List Int) (s : ByteArray) (hs : s.size ≤ 1048576) (w : World) (hv : SeesI w v zs) :
    Calls Try.prog 43 #[.agg (mc M), v, .string s] w fun e w' => e = .returned (.int .i64 (bothC M zs s)) ∧ Below w.heap.size w w' := by
  have F1 : Hid (cut (mc M) 0 98 = mc M) := Lib.hid (cut_all _ _ (mc_size hok)); have F2 : Hid (0 + 98 ≤ (mc M).size) := Lib.hid (by rw [mc_size hok]; omega)
  have hB : Blk (w.alloc (.cells (mc M) 29)) w.heap.size (mc M) 29 := Blk.new w _ _
  have hvB := hv.below (w1 := w.alloc (.cells (mc M) 29)) (by (repeat (first | exact Below.refl _ _ | refine below_drew' ?_ | refine below_drewN' ?_ _ | refine below_alloc' ?_ _ | refine below_set' ?_ (by (try simp); (try omega)) _ | refine below_step ?_ (by assumption))))
  have hL1 := sees_one hvB
  rw [show (w.alloc (.cells (mc M) 29)).heap.size = w.heap.size + 1 from by simp] at hL1
  have hB0 := hB.alloc (.cells #[v] 26)
  obtain ⟨oa, cap, rfl, hc⟩ := hv.view
  clear hv hc
  cases hm : isGrp M zs
  · have Hr : Hid (bothC M zs s = 1) := Lib.hid (by unfold bothC; rw [walkB_no hm]; rfl)
    go_enter Try.func43, Try.ntmps43
    go_wp2_with (first | (with_reducible show wpList _ _ _ _ _ _; refine wpList_load_blk rfl 29 (.tmp 3) rfl w.heap.size 0 rfl (mc M) _ (hB) 98 F2.out _ Try.underlying29 rfl size_mach ?_; rw [F1.out]) | (go_at_call 58; refine (l02Code_one M hok _ _ zs _ hm _ hL1).mono ?_; rintro e w1 ⟨rfl, hb1⟩; simp only [Bool.false_eq_true, if_false]))
    go_ret
    exact ⟨ret_int Hr.out.symm, by (repeat (first | exact Below.refl _ _ | refine below_drew' ?_ | refine below_drewN' ?_ _ | refine below_alloc' ?_ _ | refine below_set' ?_ (by (try simp); (try omega)) _ | refine below_step ?_ (by assumption)))⟩
  · obtain ⟨L, S, hg⟩ := Good.of hok (isGrp_mach hm).1
    have hL3 := hg.L3
    have hLL := hg.hL
    cases hw : wordB L s
    · have Hr : Hid (bothC M zs s = 1) := Lib.hid (by unfold bothC; rw [walkB_yes hLL hm, hw]; rfl)
      clear hg
      go_enter Try.func43, Try.ntmps43
      go_wp2_with (first | (with_reducible show wpList _ _ _ _ _ _; refine wpList_load_blk rfl 29 (.tmp 3) rfl w.heap.size 0 rfl (mc M) _ (hB) 98 F2.out _ Try.underlying29 rfl size_mach ?_; rw [F1.out]) | (with_reducible show wpList _ _ _ _ _ _; refine wpList_load_blk_g rfl 29 (.tmp 3) rfl w.heap.size 0 rfl (mc M) _ (hB1) 98 F2.out _ Try.underlying29 rfl size_mach ?_; rw [F1.out]) | (go_at_call 58; refine (l02Code_one M hok _ _ zs _ hm _ hL1).mono ?_; rintro e w1 ⟨rfl, hb1⟩; simp only [if_true]; have hB1 := hB0.keptAll hb1) | (go_at_call 72; refine (l01Word_calls M L hLL hL3 s hs _).mono ?_; rintro e w2 ⟨rfl, hb2⟩; rw [hw]))
      go_ret
      exact ⟨ret_int Hr.out.symm, by (repeat (first | exact Below.refl _ _ | refine below_drew' ?_ | refine below_drewN' ?_ _ | refine below_alloc' ?_ _ | refine below_set' ?_ (by (try simp); (try omega)) _ | refine below_step ?_ (by assumption)))⟩
    · have Hr : Hid (bothC M zs s = 0) := Lib.hid (by unfold bothC; rw [walkB_yes hLL hm, hw]; rfl)
      clear hg
      go_enter Try.func43, Try.ntmps43
      go_wp2_with (first | (with_reducible show wpList _ _ _ _ _ _; refine wpList_load_blk rfl 29 (.tmp 3) rfl w.heap.size 0 rfl (mc M) _ (hB) 98 F2.out _ Try.underlying29 rfl size_mach ?_; rw [F1.out]) | (with_reducible show wpList _ _ _ _ _ _; refine wpList_load_blk_g rfl 29 (.tmp 3) rfl w.heap.size 0 rfl (mc M) _ (hB1) 98 F2.out _ Try.underlying29 rfl size_mach ?_; rw [F1.out]) | (go_at_call 58; refine (l02Code_one M hok _ _ zs _ hm _ hL1).mono ?_; rintro e w1 ⟨rfl, hb1⟩; simp only [if_true]; have hB1 := hB0.keptAll hb1) | (go_at_call 72; refine (l01Word_calls M L hLL hL3 s hs _).mono ?_; rintro e w2 ⟨rfl, hb2⟩; rw [hw]))
      go_ret
      exact ⟨ret_int Hr.out.symm, by (repeat (first | exact Below.refl _ _ | refine below_drew' ?_ | refine below_drewN' ?_ _ | refine below_alloc' ?_ _ | refine below_set' ?_ (by (try simp); (try omega)) _ | refine below_step ?_ (by assumption)))⟩

def imgR (M : Mach) (zs : List Int) (s : ByteArray) : ByteArray := if walkB M zs s then ⟨(actG M zs s.data.toList).1.toArray⟩ else ⟨#[]⟩
def secR (M : Mach) (zs : List Int) (s : ByteArray) : List Int := if walkB M zs s then (actG M zs s.data.toList).2 else []
theorem secR_len {M : Mach} (hok : M.Ok) (zs : List Int) (s : ByteArray) : (secR M zs s).length ≤ 1048576 := by
  unfold secR
  split
  · rename_i h
    obtain ⟨L, S, hw⟩ := walks_of hok h
    have := (actG_all hw.g zs hw.n _ hw.l).2.2.1
    have := hw.l40
    omega
  · simp

end Go.Proofs.Yticnpajbefflbaa
