/- 'ActOnWord' and 'SectionAt', program and model, and the statements on them. -/
import Derived.Test.YtdbdoohcpcjfdaaLawA
import Derived.Test.YtdbdoohcpcjfdaaAct
namespace Go.Proofs.Ytdbdoohcpcjfdaa
open Go.RowKit

/-- The code of a walk. -/
def walkCode (M : Mach) (q : Int) (s : ByteArray) : Int := if isMach M = false ∨ wordB M.L.toNat s = false then 1 else if 0 ≤ q ∧ q < M.S then 0 else 2

theorem isState_calls (M : Mach) (q : Int) (w : World) :
    Calls Try.prog 38 #[.agg (mc M), .int .i64 q] w fun e w' => e = .returned (.bool (decide (0 ≤ q ∧ q < M.S))) ∧ Below w.heap.size w w' := by
  have hS := mc_S M
  by_cases h0 : 0 ≤ q
  · by_cases h1 : q < M.S
    · go_enter Try.func38, Try.ntmps38
      go_wp2
      go_ret
      exact ⟨ret_bool (by simp [h0, h1]), by (repeat (first | exact Below.refl _ _ | refine below_drew' ?_ | refine below_drewN' ?_ _ | refine below_alloc' ?_ _ | refine below_set' ?_ (by (try simp); (try omega)) _ | refine below_step ?_ (by assumption)))⟩
    · go_enter Try.func38, Try.ntmps38
      go_wp2
      go_ret
      exact ⟨ret_bool (by simp; omega), by (repeat (first | exact Below.refl _ _ | refine below_drew' ?_ | refine below_drewN' ?_ _ | refine below_alloc' ?_ _ | refine below_set' ?_ (by (try simp); (try omega)) _ | refine below_step ?_ (by assumption)))⟩
  · go_enter Try.func38, Try.ntmps38
    go_wp2
    go_ret
    exact ⟨ret_bool (by simp; omega), by (repeat (first | exact Below.refl _ _ | refine below_drew' ?_ | refine below_drewN' ?_ _ | refine below_alloc' ?_ _ | refine below_set' ?_ (by (try simp); (try omega)) _ | refine below_step ?_ (by assumption)))⟩

set_option maxRecDepth 100000 in
set_option maxHeartbeats 400000 in
theorem checkWalk_calls (M : Mach) (hok : M.Ok) (q : Int) (s : ByteArray) (_ : s.size ≤ 1048576) (w : World) :
    Calls Try.prog 32 #[.agg (mc M), .int .i64 q, .string s] w fun e w' => e = .returned (.int .i64 (walkCode M q s)) ∧ Below w.heap.size w w' := by
  have hcL := mc_L M
  have F1 : Hid (cut (mc M) 0 98 = mc M) := Lib.hid (cut_all _ _ (mc_size hok)); have F2 : Hid (0 + 98 ≤ (mc M).size) := Lib.hid (by rw [mc_size hok]; omega)
  have hB : Blk (w.alloc (.cells (mc M) 28)) w.heap.size (mc M) 28 := Blk.new w _ _
  cases hm : isMach M
  · have Hc : Hid (walkCode M q s = 1) := Lib.hid (by simp [walkCode, hm])
    go_enter Try.func32, Try.ntmps32
    go_wp2_with (first | (with_reducible show wpList _ _ _ _ _ _; refine wpList_load_blk rfl 28 (.tmp 3) rfl w.heap.size 0 rfl (mc M) _ (by first | exact hB1 | exact hB) 98 F2.out _ Try.underlying28 rfl size_mach ?_; rw [F1.out]) | (go_at_call 37; refine (IsMachine_calls M hok _).mono ?_; rintro e w1 ⟨rfl, hb1⟩))
    go_ret
    exact ⟨ret_int Hc.out.symm, by (repeat (first | exact Below.refl _ _ | refine below_drew' ?_ | refine below_drewN' ?_ _ | refine below_alloc' ?_ _ | refine below_set' ?_ (by (try simp); (try omega)) _ | refine below_step ?_ (by assumption)))⟩
  · obtain ⟨L, S, hg⟩ := Good.of hok hm
    have hL3 := hg.L3
    have hln : M.L = L := hg.hL
    rw [hln] at hcL
    have Hln := Lib.hid hln; clear hln
    cases hwd : wordB L s
    · have Hc : Hid (walkCode M q s = 1) := Lib.hid (by simp [walkCode, Hln.out, hwd])
      go_enter Try.func32, Try.ntmps32
      go_wp2_with (first | (with_reducible show wpList _ _ _ _ _ _; refine wpList_load_blk rfl 28 (.tmp 3) rfl w.heap.size 0 rfl (mc M) _ (by first | exact hB1 | exact hB) 98 F2.out _ Try.underlying28 rfl size_mach ?_; rw [F1.out]) | (go_at_call 37; refine (IsMachine_calls M hok _).mono ?_; rintro e w1 ⟨rfl, hb1⟩; have hB1 := hB.keptAll hb1; have cA := hB1.cell) | (go_at_call 58; refine (isWord_calls L s hL3 _).mono ?_; rintro e w' ⟨rfl, rfl⟩))
      go_ret
      exact ⟨ret_int Hc.out.symm, by (repeat (first | exact Below.refl _ _ | refine below_drew' ?_ | refine below_drewN' ?_ _ | refine below_alloc' ?_ _ | refine below_set' ?_ (by (try simp); (try omega)) _ | refine below_step ?_ (by assumption)))⟩
    · by_cases hq : 0 ≤ q ∧ q < M.S
      · have Hc : Hid (walkCode M q s = 0) := Lib.hid (by simp [walkCode, Hln.out, hwd, hm, hq])
        have hqd : decide (0 ≤ q ∧ q < M.S) = true := by simpa using hq
        clear hq
        go_enter Try.func32, Try.ntmps32
        go_wp2_with (first | (with_reducible show wpList _ _ _ _ _ _; refine wpList_load_blk rfl 28 (.tmp 3) rfl w.heap.size 0 rfl (mc M) _ (by first | exact hB1 | exact hB) 98 F2.out _ Try.underlying28 rfl size_mach ?_; rw [F1.out]) | (go_at_call 37; refine (IsMachine_calls M hok _).mono ?_; rintro e w1 ⟨rfl, hb1⟩; have hB1 := hB.keptAll hb1; have cA := hB1.cell) | (go_at_call 58; refine (isWord_calls L s hL3 _).mono ?_; rintro e w' ⟨rfl, rfl⟩) | (with_reducible show wpList _ _ _ _ _ _; refine wpList_load_blk rfl 28 (.tmp 3) rfl w.heap.size 0 rfl (mc M) _ (by first | exact hB1 | exact hB) 98 F2.out _ Try.underlying28 rfl size_mach ?_; rw [F1.out]) | (go_at_call 38; refine (isState_calls M q _).mono ?_; rintro e w2 ⟨rfl, hb2⟩))
        go_ret
        exact ⟨ret_int Hc.out.symm, by (repeat (first | exact Below.refl _ _ | refine below_drew' ?_ | refine below_drewN' ?_ _ | refine below_alloc' ?_ _ | refine below_set' ?_ (by (try simp); (try omega)) _ | refine below_step ?_ (by assumption)))⟩
      · have Hc : Hid (walkCode M q s = 2) := Lib.hid (by simp [walkCode, Hln.out, hwd, hm]; omega)
        have hqd : decide (0 ≤ q ∧ q < M.S) = false := by simpa using hq
        clear hq
        go_enter Try.func32, Try.ntmps32
        go_wp2_with (first | (with_reducible show wpList _ _ _ _ _ _; refine wpList_load_blk rfl 28 (.tmp 3) rfl w.heap.size 0 rfl (mc M) _ (by first | exact hB1 | exact hB) 98 F2.out _ Try.underlying28 rfl size_mach ?_; rw [F1.out]) | (go_at_call 37; refine (IsMachine_calls M hok _).mono ?_; rintro e w1 ⟨rfl, hb1⟩; have hB1 := hB.keptAll hb1; have cA := hB1.cell) | (go_at_call 58; refine (isWord_calls L s hL3 _).mono ?_; rintro e w' ⟨rfl, rfl⟩) | (with_reducible show wpList _ _ _ _ _ _; refine wpList_load_blk rfl 28 (.tmp 3) rfl w.heap.size 0 rfl (mc M) _ (by first | exact hB1 | exact hB) 98 F2.out _ Try.underlying28 rfl size_mach ?_; rw [F1.out]) | (go_at_call 38; refine (isState_calls M q _).mono ?_; rintro e w2 ⟨rfl, hb2⟩))
        go_ret
        exact ⟨ret_int Hc.out.symm, by (repeat (first | exact Below.refl _ _ | refine below_drew' ?_ | refine below_drewN' ?_ _ | refine below_alloc' ?_ _ | refine below_set' ?_ (by (try simp); (try omega)) _ | refine below_step ?_ (by assumption)))⟩

set_option maxRecDepth 100000 in
theorem l01Word_calls (M : Mach) (L : Nat) (hL : M.L = L) (hL3 : L ≤ 3) (s : ByteArray) (hs : s.size ≤ 1048576) (w : World) :
    Calls Try.prog 56 #[.agg (mc M), .string s] w fun e w' => e = .returned (.bool (wordB L s)) ∧ Below w.heap.size w w' := by
  have hcL := mc_L M
  rw [hL] at hcL
  have HL := Lib.hid hL; clear hL
  by_cases h40 : s.size ≤ 40
  · go_enter Try.func56, Try.ntmps56
    go_wp2_with (first | (go_at_call 78; refine (l01Letters_calls L s hL3 h40 _).mono ?_; rintro e w' ⟨rfl, rfl⟩))
    go_ret
    exact ⟨ret_bool (by simp [wordB, h40]), by (repeat (first | exact Below.refl _ _ | refine below_drew' ?_ | refine below_drewN' ?_ _ | refine below_alloc' ?_ _ | refine below_set' ?_ (by (try simp); (try omega)) _ | refine below_step ?_ (by assumption)))⟩
  · go_enter Try.func56, Try.ntmps56
    go_wp2_with fail
    go_ret
    exact ⟨ret_bool (by simp [wordB, h40]), by (repeat (first | exact Below.refl _ _ | refine below_drew' ?_ | refine below_drewN' ?_ _ | refine below_alloc' ?_ _ | refine below_set' ?_ (by (try simp); (try omega)) _ | refine below_step ?_ (by assumption)))⟩

set_option maxRecDepth 100000 in
set_option maxHeartbeats 400000 in
theorem l01Code_calls (M : Mach) (hok : M.Ok) (q : Int) (s : ByteArray) (hs : s.size ≤ 1048576) (w : World) :
    Calls Try.prog 28 #[.agg (mc M), .int .i64 q, .string s] w fun e w' => e = .returned (.int .i64 (walkCode M q s)) ∧ Below w.heap.size w w' := by
  have hcL := mc_L M
  have hcS := mc_S M
  have F1 : Hid (cut (mc M) 0 98 = mc M) := Lib.hid (cut_all _ _ (mc_size hok)); have F2 : Hid (0 + 98 ≤ (mc M).size) := Lib.hid (by rw [mc_size hok]; omega)
  have hB : Blk (w.alloc (.cells (mc M) 28)) w.heap.size (mc M) 28 := Blk.new w _ _
  cases hm : isMach M
  · have Hc : Hid (walkCode M q s = 1) := Lib.hid (by simp [walkCode, hm])
    go_enter Try.func28, Try.ntmps28
    go_wp2_with (first | (with_reducible show wpList _ _ _ _ _ _; refine wpList_load_blk rfl 28 (.tmp 3) rfl w.heap.size 0 rfl (mc M) _ (by first | exact hB1 | exact hB) 98 F2.out _ Try.underlying28 rfl size_mach ?_; rw [F1.out]) | (with_reducible show wpList _ _ _ _ _ _; refine wpList_load_blk_g rfl 28 (.tmp 3) rfl w.heap.size 0 rfl (mc M) _ (by first | exact hB1 | exact hB) 98 F2.out _ Try.underlying28 rfl size_mach ?_; rw [F1.out]) | (go_at_call 54; refine (l01Is_calls M hok _).mono ?_; rintro e w1 ⟨rfl, hb1⟩))
    go_ret
    exact ⟨ret_int Hc.out.symm, by (repeat (first | exact Below.refl _ _ | refine below_drew' ?_ | refine below_drewN' ?_ _ | refine below_alloc' ?_ _ | refine below_set' ?_ (by (try simp); (try omega)) _ | refine below_step ?_ (by assumption)))⟩
  · obtain ⟨L, S, hg⟩ := Good.of hok hm
    have hL3 := hg.L3
    have hS16 := hg.S16
    have hS1 := hg.S1
    have hln : M.L = L := hg.hL
    have hsn : M.S = S := hg.hS
    rw [hln] at hcL
    rw [hsn] at hcS
    have Hln := Lib.hid hln; have Hsn := Lib.hid hsn; clear hln hsn
    cases hwd : wordB L s
    · have Hc : Hid (walkCode M q s = 1) := Lib.hid (by simp [walkCode, Hln.out, hwd])
      go_enter Try.func28, Try.ntmps28
      go_wp2_with (first | (with_reducible show wpList _ _ _ _ _ _; refine wpList_load_blk rfl 28 (.tmp 3) rfl w.heap.size 0 rfl (mc M) _ (by first | exact hB1 | exact hB) 98 F2.out _ Try.underlying28 rfl size_mach ?_; rw [F1.out]) | (with_reducible show wpList _ _ _ _ _ _; refine wpList_load_blk_g rfl 28 (.tmp 3) rfl w.heap.size 0 rfl (mc M) _ (by first | exact hB1 | exact hB) 98 F2.out _ Try.underlying28 rfl size_mach ?_; rw [F1.out]) | (go_at_call 54; refine (l01Is_calls M hok _).mono ?_; rintro e w1 ⟨rfl, hb1⟩; have hB1 := hB.keptAll hb1) | (with_reducible show wpList _ _ _ _ _ _; refine wpList_load_blk rfl 28 (.tmp 3) rfl w.heap.size 0 rfl (mc M) _ (by first | exact hB1 | exact hB) 98 F2.out _ Try.underlying28 rfl size_mach ?_; rw [F1.out]) | (go_at_call 56; refine (l01Word_calls M L Hln.out hL3 s hs _).mono ?_; rintro e w2 ⟨rfl, hb2⟩; have hB2 := hB1.keptAll hb2; have cA := hB2.cell))
      go_ret
      exact ⟨ret_int Hc.out.symm, by (repeat (first | exact Below.refl _ _ | refine below_drew' ?_ | refine below_drewN' ?_ _ | refine below_alloc' ?_ _ | refine below_set' ?_ (by (try simp); (try omega)) _ | refine below_step ?_ (by assumption)))⟩
    · by_cases hq : 0 ≤ q ∧ q ≤ (S : Int) - 1
      · have Hc : Hid (walkCode M q s = 0) := Lib.hid (by simp [walkCode, Hln.out, Hsn.out, hwd, hm]; omega)
        have hqd : decide (0 ≤ q ∧ q ≤ (S : Int) - 1) = true := by simpa using hq
        clear hq
        go_enter Try.func28, Try.ntmps28
        go_wp2_with (first | (with_reducible show wpList _ _ _ _ _ _; refine wpList_load_blk rfl 28 (.tmp 3) rfl w.heap.size 0 rfl (mc M) _ (by first | exact hB1 | exact hB) 98 F2.out _ Try.underlying28 rfl size_mach ?_; rw [F1.out]) | (with_reducible show wpList _ _ _ _ _ _; refine wpList_load_blk_g rfl 28 (.tmp 3) rfl w.heap.size 0 rfl (mc M) _ (by first | exact hB1 | exact hB) 98 F2.out _ Try.underlying28 rfl size_mach ?_; rw [F1.out]) | (go_at_call 54; refine (l01Is_calls M hok _).mono ?_; rintro e w1 ⟨rfl, hb1⟩; have hB1 := hB.keptAll hb1) | (with_reducible show wpList _ _ _ _ _ _; refine wpList_load_blk rfl 28 (.tmp 3) rfl w.heap.size 0 rfl (mc M) _ (by first | exact hB1 | exact hB) 98 F2.out _ Try.underlying28 rfl size_mach ?_; rw [F1.out]) | (go_at_call 56; refine (l01Word_calls M L Hln.out hL3 s hs _).mono ?_; rintro e w2 ⟨rfl, hb2⟩; have hB2 := hB1.keptAll hb2; have cA := hB2.cell) | (go_at_call 36; refine (l01In_calls _ _ _ _).mono ?_; rintro e w' ⟨rfl, rfl⟩))
        go_ret
        exact ⟨ret_int Hc.out.symm, by (repeat (first | exact Below.refl _ _ | refine below_drew' ?_ | refine below_drewN' ?_ _ | refine below_alloc' ?_ _ | refine below_set' ?_ (by (try simp); (try omega)) _ | refine below_step ?_ (by assumption)))⟩
      · have Hc : Hid (walkCode M q s = 2) := Lib.hid (by simp [walkCode, Hln.out, Hsn.out, hwd, hm]; omega)
        have hqd : decide (0 ≤ q ∧ q ≤ (S : Int) - 1) = false := by simpa using hq
        clear hq
        go_enter Try.func28, Try.ntmps28
        go_wp2_with (first | (with_reducible show wpList _ _ _ _ _ _; refine wpList_load_blk rfl 28 (.tmp 3) rfl w.heap.size 0 rfl (mc M) _ (by first | exact hB1 | exact hB) 98 F2.out _ Try.underlying28 rfl size_mach ?_; rw [F1.out]) | (with_reducible show wpList _ _ _ _ _ _; refine wpList_load_blk_g rfl 28 (.tmp 3) rfl w.heap.size 0 rfl (mc M) _ (by first | exact hB1 | exact hB) 98 F2.out _ Try.underlying28 rfl size_mach ?_; rw [F1.out]) | (go_at_call 54; refine (l01Is_calls M hok _).mono ?_; rintro e w1 ⟨rfl, hb1⟩; have hB1 := hB.keptAll hb1) | (with_reducible show wpList _ _ _ _ _ _; refine wpList_load_blk rfl 28 (.tmp 3) rfl w.heap.size 0 rfl (mc M) _ (by first | exact hB1 | exact hB) 98 F2.out _ Try.underlying28 rfl size_mach ?_; rw [F1.out]) | (go_at_call 56; refine (l01Word_calls M L Hln.out hL3 s hs _).mono ?_; rintro e w2 ⟨rfl, hb2⟩; have hB2 := hB1.keptAll hb2; have cA := hB2.cell) | (go_at_call 36; refine (l01In_calls _ _ _ _).mono ?_; rintro e w' ⟨rfl, rfl⟩))
        go_ret
        exact ⟨ret_int Hc.out.symm, by (repeat (first | exact Below.refl _ _ | refine below_drew' ?_ | refine below_drewN' ?_ _ | refine below_alloc' ?_ _ | refine below_set' ?_ (by (try simp); (try omega)) _ | refine below_step ?_ (by assumption)))⟩
end Go.Proofs.Ytdbdoohcpcjfdaa
