/- 'ActOnWord' and 'SectionAt', program and model, and the statements on them. -/
import Derived.Test.YtbmcbldciioibaaLawB
import Derived.Test.YtbmcbldciioibaaWordF
namespace Go.Proofs.Ytbmcbldciioibaa
open Go.RowKit

def actStr (M : Mach) (q : Int) (s : ByteArray) : ByteArray := if walkCode M q s = 0 then ⟨(runL M q.toNat s.data.toList).2.toArray⟩ else ⟨#[]⟩
def secVal (M : Mach) (q : Int) (s : ByteArray) : Int := if walkCode M q s = 0 then ((runL M q.toNat s.data.toList).1 : Nat) else 0
theorem walk_good {M : Mach} (hok : M.Ok) {q : Int} {s : ByteArray} (h : walkCode M q s = 0) : ∃ (L S qn : Nat), Good M L S ∧ q = (qn : Int) ∧ qn < S ∧ s.size ≤ 40 ∧ lettersL L s.data.toList = true := by
  unfold walkCode at h
  split at h
  · cases h
  · rename_i h1
    split at h
    · rename_i h2
      have hm : isMach M = true := by cases hh : isMach M <;> simp_all
      obtain ⟨L, S, hg⟩ := Good.of hok hm
      obtain ⟨qn, rfl⟩ := Int.eq_ofNat_of_zero_le h2.1
      have hw : wordB L s = true := by
        have := hg.hL
        cases hh : wordB L s
        · exact absurd (Or.inr (by rw [this, Int.toNat_natCast]; exact hh)) h1
        · rfl
      have := hg.hS
      obtain ⟨a, b⟩ := (wordB_iff L s).1 hw
      exact ⟨L, S, qn, hg, rfl, by omega, a, b⟩
    · cases h

set_option maxRecDepth 100000 in
set_option maxHeartbeats 400000 in
theorem iActOnWord_calls (M : Mach) (hok : M.Ok) (q : Int) (s : ByteArray) (hs : s.size ≤ 1048576) (w : World) :
    Calls Try.prog 19 #[.agg (mc M), .int .i64 q, .string s] w fun e w' => e = .returned (.tuple #[.string (actStr M q s), .int .i64 (walkCode M q s)]) ∧ Below w.heap.size w w' := by
  have F1 : Hid (cut (mc M) 0 98 = mc M) := Lib.hid (cut_all _ _ (mc_size hok)); have F2 : Hid (0 + 98 ≤ (mc M).size) := Lib.hid (by rw [mc_size hok]; omega)
  have hB : Blk (w.alloc (.cells (mc M) 27)) w.heap.size (mc M) 27 := Blk.new w _ _
  by_cases hc : walkCode M q s = 0
  · obtain ⟨L, S, qn, hg, rfl, hq, hs40, hl⟩ := walk_good hok hc
    have Hv : Hid (actStr M qn s = ⟨(runL M qn s.data.toList).2.toArray⟩) := Lib.hid (by simp [actStr, hc])
    have hcb : (walkCode M qn s != 0) = false := by simp [hc]
    have Hc := Lib.hid hc; clear hc
    go_enter Try.func19, Try.ntmps19
    go_wp2_with (first | (with_reducible show wpList _ _ _ _ _ _; refine wpList_load_blk rfl 27 (.tmp 3) rfl w.heap.size 0 rfl (mc M) _ (by first | exact hB1 | exact hB) 98 F2.out _ Try.underlying27 rfl size_mach ?_; rw [F1.out]) | (go_at_call 64; refine (checkWalk_calls M hok qn s hs _).mono ?_; rintro e w1 ⟨rfl, hb1⟩; have hB1 := hB.keptAll hb1) | (go_at_call 65; refine (walk_calls M L S hg qn hq s hs40 hl _).mono ?_; rintro e w2 ⟨rfl, hb2⟩))
    go_ret2
    exact ⟨ret_si Hv.out.symm Hc.out.symm, by (repeat (first | exact Below.refl _ _ | refine below_drew' ?_ | refine below_drewN' ?_ _ | refine below_alloc' ?_ _ | refine below_set' ?_ (by (try simp); (try omega)) _ | refine below_step ?_ (by assumption)))⟩
  · have Hv : Hid (actStr M q s = ⟨#[]⟩) := Lib.hid (by simp [actStr, hc])
    have hcb : (walkCode M q s != 0) = true := by simp [hc]
    clear hc
    go_enter Try.func19, Try.ntmps19
    go_wp2_with (first | (with_reducible show wpList _ _ _ _ _ _; refine wpList_load_blk rfl 27 (.tmp 3) rfl w.heap.size 0 rfl (mc M) _ (by first | exact hB1 | exact hB) 98 F2.out _ Try.underlying27 rfl size_mach ?_; rw [F1.out]) | (go_at_call 64; refine (checkWalk_calls M hok q s hs _).mono ?_; rintro e w1 ⟨rfl, hb1⟩; have hB1 := hB.keptAll hb1))
    go_ret2
    exact ⟨ret_si Hv.out.symm rfl, by (repeat (first | exact Below.refl _ _ | refine below_drew' ?_ | refine below_drewN' ?_ _ | refine below_alloc' ?_ _ | refine below_set' ?_ (by (try simp); (try omega)) _ | refine below_step ?_ (by assumption)))⟩

set_option maxRecDepth 100000 in
set_option maxHeartbeats 400000 in
theorem sActOnWord_calls (M : Mach) (hok : M.Ok) (q : Int) (s : ByteArray) (hs : s.size ≤ 1048576) (w : World) :
    Calls Try.prog 20 #[.agg (mc M), .int .i64 q, .string s] w fun e w' => e = .returned (.tuple #[.string (actStr M q s), .int .i64 (walkCode M q s)]) ∧ Below w.heap.size w w' := by
  have F1 : Hid (cut (mc M) 0 98 = mc M) := Lib.hid (cut_all _ _ (mc_size hok)); have F2 : Hid (0 + 98 ≤ (mc M).size) := Lib.hid (by rw [mc_size hok]; omega)
  have hB : Blk (w.alloc (.cells (mc M) 27)) w.heap.size (mc M) 27 := Blk.new w _ _
  by_cases hc : walkCode M q s = 0
  · obtain ⟨L, S, qn, hg, rfl, hq, hs40, hl⟩ := walk_good hok hc
    have Hv : Hid (actStr M qn s = ⟨(runL M qn s.data.toList).2.toArray⟩) := Lib.hid (by simp [actStr, hc])
    have hcb : (walkCode M qn s != 0) = false := by simp [hc]
    have Hc := Lib.hid hc; clear hc
    go_enter Try.func20, Try.ntmps20
    go_wp2_with (first | (with_reducible show wpList _ _ _ _ _ _; refine wpList_load_blk rfl 27 (.tmp 3) rfl w.heap.size 0 rfl (mc M) _ (by first | exact hB1 | exact hB) 98 F2.out _ Try.underlying27 rfl size_mach ?_; rw [F1.out]) | (go_at_call 66; refine (l01Code_calls M hok qn s hs _).mono ?_; rintro e w1 ⟨rfl, hb1⟩; have hB1 := hB.keptAll hb1) | (go_at_call 67; refine (l01Act_calls M L S hg qn hq s hs40 hl _).mono ?_; rintro e w2 ⟨rfl, hb2⟩))
    go_ret2
    exact ⟨ret_si Hv.out.symm Hc.out.symm, by (repeat (first | exact Below.refl _ _ | refine below_drew' ?_ | refine below_drewN' ?_ _ | refine below_alloc' ?_ _ | refine below_set' ?_ (by (try simp); (try omega)) _ | refine below_step ?_ (by assumption)))⟩
  · have Hv : Hid (actStr M q s = ⟨#[]⟩) := Lib.hid (by simp [actStr, hc])
    have hcb : (walkCode M q s != 0) = true := by simp [hc]
    clear hc
    go_enter Try.func20, Try.ntmps20
    go_wp2_with (first | (with_reducible show wpList _ _ _ _ _ _; refine wpList_load_blk rfl 27 (.tmp 3) rfl w.heap.size 0 rfl (mc M) _ (by first | exact hB1 | exact hB) 98 F2.out _ Try.underlying27 rfl size_mach ?_; rw [F1.out]) | (go_at_call 66; refine (l01Code_calls M hok q s hs _).mono ?_; rintro e w1 ⟨rfl, hb1⟩; have hB1 := hB.keptAll hb1))
    go_ret2
    exact ⟨ret_si Hv.out.symm rfl, by (repeat (first | exact Below.refl _ _ | refine below_drew' ?_ | refine below_drewN' ?_ _ | refine below_alloc' ?_ _ | refine below_set' ?_ (by (try simp); (try omega)) _ | refine below_step ?_ (by assumption)))⟩

set_option maxRecDepth 100000 in
set_option maxHeartbeats 400000 in
theorem iSectionAt_calls (M : Mach) (hok : M.Ok) (q : Int) (s : ByteArray) (hs : s.size ≤ 1048576) (w : World) :
    Calls Try.prog 21 #[.agg (mc M), .int .i64 q, .string s] w fun e w' => e = .returned (.tuple #[.int .i64 (secVal M q s), .int .i64 (walkCode M q s)]) ∧ Below w.heap.size w w' := by
  have F1 : Hid (cut (mc M) 0 98 = mc M) := Lib.hid (cut_all _ _ (mc_size hok)); have F2 : Hid (0 + 98 ≤ (mc M).size) := Lib.hid (by rw [mc_size hok]; omega)
  have hB : Blk (w.alloc (.cells (mc M) 27)) w.heap.size (mc M) 27 := Blk.new w _ _
  by_cases hc : walkCode M q s = 0
  · obtain ⟨L, S, qn, hg, rfl, hq, hs40, hl⟩ := walk_good hok hc
    have Hv : Hid (secVal M qn s = ((runL M qn s.data.toList).1 : Nat)) := Lib.hid (by simp [secVal, hc])
    have hcb : (walkCode M qn s != 0) = false := by simp [hc]
    have Hc := Lib.hid hc; clear hc
    go_enter Try.func21, Try.ntmps21
    go_wp2_with (first | (with_reducible show wpList _ _ _ _ _ _; refine wpList_load_blk rfl 27 (.tmp 3) rfl w.heap.size 0 rfl (mc M) _ (by first | exact hB1 | exact hB) 98 F2.out _ Try.underlying27 rfl size_mach ?_; rw [F1.out]) | (go_at_call 64; refine (checkWalk_calls M hok qn s hs _).mono ?_; rintro e w1 ⟨rfl, hb1⟩; have hB1 := hB.keptAll hb1) | (go_at_call 65; refine (walk_calls M L S hg qn hq s hs40 hl _).mono ?_; rintro e w2 ⟨rfl, hb2⟩))
    go_ret2
    exact ⟨ret_ii Hv.out.symm Hc.out.symm, by (repeat (first | exact Below.refl _ _ | refine below_drew' ?_ | refine below_drewN' ?_ _ | refine below_alloc' ?_ _ | refine below_set' ?_ (by (try simp); (try omega)) _ | refine below_step ?_ (by assumption)))⟩
  · have Hv : Hid (secVal M q s = 0) := Lib.hid (by simp [secVal, hc])
    have hcb : (walkCode M q s != 0) = true := by simp [hc]
    clear hc
    go_enter Try.func21, Try.ntmps21
    go_wp2_with (first | (with_reducible show wpList _ _ _ _ _ _; refine wpList_load_blk rfl 27 (.tmp 3) rfl w.heap.size 0 rfl (mc M) _ (by first | exact hB1 | exact hB) 98 F2.out _ Try.underlying27 rfl size_mach ?_; rw [F1.out]) | (go_at_call 64; refine (checkWalk_calls M hok q s hs _).mono ?_; rintro e w1 ⟨rfl, hb1⟩; have hB1 := hB.keptAll hb1))
    go_ret2
    exact ⟨ret_ii Hv.out.symm rfl, by (repeat (first | exact Below.refl _ _ | refine below_drew' ?_ | refine below_drewN' ?_ _ | refine below_alloc' ?_ _ | refine below_set' ?_ (by (try simp); (try omega)) _ | refine below_step ?_ (by assumption)))⟩

set_option maxRecDepth 100000 in
set_option maxHeartbeats 400000 in
theorem sSectionAt_calls (M : Mach) (hok : M.Ok) (q : Int) (s : ByteArray) (hs : s.size ≤ 1048576) (w : World) :
    Calls Try.prog 22 #[.agg (mc M), .int .i64 q, .string s] w fun e w' => e = .returned (.tuple #[.int .i64 (secVal M q s), .int .i64 (walkCode M q s)]) ∧ Below w.heap.size w w' := by
  have F1 : Hid (cut (mc M) 0 98 = mc M) := Lib.hid (cut_all _ _ (mc_size hok)); have F2 : Hid (0 + 98 ≤ (mc M).size) := Lib.hid (by rw [mc_size hok]; omega)
  have hB : Blk (w.alloc (.cells (mc M) 27)) w.heap.size (mc M) 27 := Blk.new w _ _
  by_cases hc : walkCode M q s = 0
  · obtain ⟨L, S, qn, hg, rfl, hq, hs40, hl⟩ := walk_good hok hc
    have Hv : Hid (secVal M qn s = ((runL M qn s.data.toList).1 : Nat)) := Lib.hid (by simp [secVal, hc])
    have hcb : (walkCode M qn s != 0) = false := by simp [hc]
    have Hc := Lib.hid hc; clear hc
    go_enter Try.func22, Try.ntmps22
    go_wp2_with (first | (with_reducible show wpList _ _ _ _ _ _; refine wpList_load_blk rfl 27 (.tmp 3) rfl w.heap.size 0 rfl (mc M) _ (by first | exact hB1 | exact hB) 98 F2.out _ Try.underlying27 rfl size_mach ?_; rw [F1.out]) | (go_at_call 66; refine (l01Code_calls M hok qn s hs _).mono ?_; rintro e w1 ⟨rfl, hb1⟩; have hB1 := hB.keptAll hb1) | (go_at_call 67; refine (l01Act_calls M L S hg qn hq s hs40 hl _).mono ?_; rintro e w2 ⟨rfl, hb2⟩))
    go_ret2
    exact ⟨ret_ii Hv.out.symm Hc.out.symm, by (repeat (first | exact Below.refl _ _ | refine below_drew' ?_ | refine below_drewN' ?_ _ | refine below_alloc' ?_ _ | refine below_set' ?_ (by (try simp); (try omega)) _ | refine below_step ?_ (by assumption)))⟩
  · have Hv : Hid (secVal M q s = 0) := Lib.hid (by simp [secVal, hc])
    have hcb : (walkCode M q s != 0) = true := by simp [hc]
    clear hc
    go_enter Try.func22, Try.ntmps22
    go_wp2_with (first | (with_reducible show wpList _ _ _ _ _ _; refine wpList_load_blk rfl 27 (.tmp 3) rfl w.heap.size 0 rfl (mc M) _ (by first | exact hB1 | exact hB) 98 F2.out _ Try.underlying27 rfl size_mach ?_; rw [F1.out]) | (go_at_call 66; refine (l01Code_calls M hok q s hs _).mono ?_; rintro e w1 ⟨rfl, hb1⟩; have hB1 := hB.keptAll hb1))
    go_ret2
    exact ⟨ret_ii Hv.out.symm rfl, by (repeat (first | exact Below.refl _ _ | refine below_drew' ?_ | refine below_drewN' ?_ _ | refine below_alloc' ?_ _ | refine below_set' ?_ (by (try simp); (try omega)) _ | refine below_step ?_ (by assumption)))⟩

set_option maxRecDepth 100000 in
set_option maxHeartbeats 400000 in
theorem lawActOnWord (M : Mach) (hok : M.Ok) (q : Int) (_ : (Lit.int .i64 q).wf = true) (s : ByteArray) (hm : s.size ≤ maxLen) (w : World) :
    Calls Try.prog 7 #[.agg (mc M), .int .i64 q, .string s] w fun e w' => e = .returned (.bool true) ∧ Below w.heap.size w w' := by
  unfold maxLen at hm
  have F1 : Hid (cut (mc M) 0 98 = mc M) := Lib.hid (cut_all _ _ (mc_size hok)); have F2 : Hid (0 + 98 ≤ (mc M).size) := Lib.hid (by rw [mc_size hok]; omega)
  have hB : Blk (w.alloc (.cells (mc M) 57)) w.heap.size (mc M) 57 := Blk.new w _ _
  by_cases hs : s.size ≤ 1048576
  · go_enter Try.func7, Try.ntmps7
    go_wp2_with (first | (with_reducible show wpList _ _ _ _ _ _; refine wpList_load_blk rfl 57 _ rfl w.heap.size 0 rfl (mc M) _ (by first | exact hB2 | exact hB) 98 F2.out _ Try.underlying57 rfl size_lmach ?_; rw [F1.out]) | (go_at_call 47; refine (toMachine_calls M hok _).mono ?_; rintro e w1 ⟨rfl, hb1⟩) | (go_at_call 20; refine (sActOnWord_calls M hok q s hs _).mono ?_; rintro e w2 ⟨rfl, hb2⟩; have hB2 := (hB.keptAll hb1).keptAll hb2) | (go_at_call 19; refine (iActOnWord_calls M hok q s hs _).mono ?_; rintro e w3 ⟨rfl, hb3⟩))
    go_ret
    exact ⟨rfl, by (repeat (first | exact Below.refl _ _ | refine below_drew' ?_ | refine below_drewN' ?_ _ | refine below_alloc' ?_ _ | refine below_set' ?_ (by (try simp); (try omega)) _ | refine below_step ?_ (by assumption)))⟩
  · go_enter Try.func7, Try.ntmps7
    go_wp2_with fail
    go_ret
    exact ⟨rfl, by (repeat (first | exact Below.refl _ _ | refine below_drew' ?_ | refine below_drewN' ?_ _ | refine below_alloc' ?_ _ | refine below_set' ?_ (by (try simp); (try omega)) _ | refine below_step ?_ (by assumption)))⟩

set_option maxRecDepth 100000 in
set_option maxHeartbeats 400000 in
theorem lawSectionAt (M : Mach) (hok : M.Ok) (q : Int) (_ : (Lit.int .i64 q).wf = true) (s : ByteArray) (hm : s.size ≤ maxLen) (w : World) :
    Calls Try.prog 8 #[.agg (mc M), .int .i64 q, .string s] w fun e w' => e = .returned (.bool true) ∧ Below w.heap.size w w' := by
  unfold maxLen at hm
  have F1 : Hid (cut (mc M) 0 98 = mc M) := Lib.hid (cut_all _ _ (mc_size hok)); have F2 : Hid (0 + 98 ≤ (mc M).size) := Lib.hid (by rw [mc_size hok]; omega)
  have hB : Blk (w.alloc (.cells (mc M) 57)) w.heap.size (mc M) 57 := Blk.new w _ _
  by_cases hs : s.size ≤ 1048576
  · go_enter Try.func8, Try.ntmps8
    go_wp2_with (first | (with_reducible show wpList _ _ _ _ _ _; refine wpList_load_blk rfl 57 _ rfl w.heap.size 0 rfl (mc M) _ (by first | exact hB2 | exact hB) 98 F2.out _ Try.underlying57 rfl size_lmach ?_; rw [F1.out]) | (go_at_call 47; refine (toMachine_calls M hok _).mono ?_; rintro e w1 ⟨rfl, hb1⟩) | (go_at_call 22; refine (sSectionAt_calls M hok q s hs _).mono ?_; rintro e w2 ⟨rfl, hb2⟩; have hB2 := (hB.keptAll hb1).keptAll hb2) | (go_at_call 21; refine (iSectionAt_calls M hok q s hs _).mono ?_; rintro e w3 ⟨rfl, hb3⟩))
    go_ret
    exact ⟨rfl, by (repeat (first | exact Below.refl _ _ | refine below_drew' ?_ | refine below_drewN' ?_ _ | refine below_alloc' ?_ _ | refine below_set' ?_ (by (try simp); (try omega)) _ | refine below_step ?_ (by assumption)))⟩
  · go_enter Try.func8, Try.ntmps8
    go_wp2_with fail
    go_ret
    exact ⟨rfl, by (repeat (first | exact Below.refl _ _ | refine below_drew' ?_ | refine below_drewN' ?_ _ | refine below_alloc' ?_ _ | refine below_set' ?_ (by (try simp); (try omega)) _ | refine below_step ?_ (by assumption)))⟩
end Go.Proofs.Ytbmcbldciioibaa
