/- Levels of graphs: 'isGraphLevel', 'l05Code' by themselves (a small text, for the laws of chapter 9). -/
import Derived.Test.YtdbdoohcpcjfdaaLawB
import Derived.Test.YtdbdoohcpcjfdaaMachD
import Derived.Test.YtdbdoohcpcjfdaaWordA0
namespace Go.Proofs.Ytdbdoohcpcjfdaa
open Go.RowKit

def gLv (M : Mach) (n : Int) : Bool := decide (0 ≤ n) && decide (n ≤ 7 - M.L)
def gCv (M : Mach) (n : Int) : Int := if isMach M = true then (if gLv M n then 0 else 2) else 1

set_option maxRecDepth 100000 in
theorem isGraphLevel_lv (L : Nat) (hL : L = 2 ∨ L = 3) (n : Int) (w : World) :
    Calls Try.prog 45 #[.int .i64 L, .int .i64 n] w fun e w' => e = .returned (.bool (decide (0 ≤ n) && decide (n ≤ 7 - (L : Int)))) ∧ w = w' := by
  have HI := Lib.hid (isLevel_calls n w)
  by_cases hn : 0 ≤ n ∧ n ≤ 5
  · rw [(isLev_iff n).2 hn] at HI
    obtain ⟨h0, h5⟩ := hn
    rcases hL with rfl | rfl
    · have Hr : Hid ((decide (0 ≤ n) && decide (n ≤ 7 - ((2 : Nat) : Int))) = true) := Lib.hid (by simp; omega)
      go_enter Try.func45, Try.ntmps45
      go_wp2_with (go_at_call 65; refine HI.out.mono ?_; rintro e w' ⟨rfl, rfl⟩)
      go_ret
      exact ⟨ret_bool Hr.out.symm, rfl⟩
    · by_cases h4 : n ≤ 4
      · have Hr : Hid ((decide (0 ≤ n) && decide (n ≤ 7 - ((3 : Nat) : Int))) = true) := Lib.hid (by simp; omega)
        go_enter Try.func45, Try.ntmps45
        go_wp2_with (go_at_call 65; refine HI.out.mono ?_; rintro e w' ⟨rfl, rfl⟩)
        go_ret
        exact ⟨ret_bool Hr.out.symm, rfl⟩
      · have Hr : Hid ((decide (0 ≤ n) && decide (n ≤ 7 - ((3 : Nat) : Int))) = false) := Lib.hid (by simp; omega)
        have h4b : decide (n ≤ 4) = false := by simpa using h4
        clear h4
        go_enter Try.func45, Try.ntmps45
        go_wp2_with (go_at_call 65; refine HI.out.mono ?_; rintro e w' ⟨rfl, rfl⟩)
        go_ret
        exact ⟨ret_bool Hr.out.symm, rfl⟩
  · rw [(isLev_no n).2 hn] at HI
    have Hr : Hid ((decide (0 ≤ n) && decide (n ≤ 7 - (L : Int))) = false) := Lib.hid (by
      cases h : (decide (0 ≤ n) && decide (n ≤ 7 - (L : Int)))
      · rfl
      · simp at h; omega)
    clear hn
    go_enter Try.func45, Try.ntmps45
    go_wp2_with (go_at_call 65; refine HI.out.mono ?_; rintro e w' ⟨rfl, rfl⟩)
    go_ret
    exact ⟨ret_bool Hr.out.symm, rfl⟩

set_option maxRecDepth 100000 in
set_option maxHeartbeats 1000000 in
theorem l05Code_lv (M : Mach) (hok : M.Ok) (n : Int) (w : World) :
    Calls Try.prog 41 #[.agg (mc M), .int .i64 n] w fun e w' => e = .returned (.int .i64 (gCv M n)) ∧ Below w.heap.size w w' := by
  have F1 : Hid (cut (mc M) 0 98 = mc M) := Lib.hid (cut_all _ _ (mc_size hok)); have F2 : Hid (0 + 98 ≤ (mc M).size) := Lib.hid (by rw [mc_size hok]; omega)
  have hB : Blk (w.alloc (.cells (mc M) 28)) w.heap.size (mc M) 28 := Blk.new w _ _
  have hbw0 : Below w.heap.size w (w.alloc (.cells (mc M) 28)) := by (repeat (first | exact Below.refl _ _ | refine below_drew' ?_ | refine below_drewN' ?_ _ | refine below_alloc' ?_ _ | refine below_set' ?_ (by (try simp); (try omega)) _ | refine below_step ?_ (by assumption)))
  have HI := Lib.hid (fun W => l01Is_calls M hok W)
  cases hm : isMach M
  · have Hr : Hid (gCv M n = 1) := Lib.hid (by simp [gCv, hm])
    rw [hm] at HI
    go_enter Try.func41, Try.ntmps41
    go_wp2_with (first | (with_reducible show wpList _ _ _ _ _ _; refine wpList_load_blk rfl 28 (.tmp 2) rfl w.heap.size 0 rfl (mc M) _ (hB) 98 F2.out _ Try.underlying28 rfl size_mach ?_; rw [F1.out]) | (go_at_call 54; refine (HI.out _).mono ?_; rintro e w1 ⟨rfl, hb1⟩))
    go_ret
    exact ⟨ret_int Hr.out.symm, below_step hbw0 hb1⟩
  · obtain ⟨L, S, hg⟩ := Good.of hok hm
    rw [hm] at HI
    have hcL := mc_L M
    rw [hg.hL] at hcL
    have hL2 := hg.L2
    have hL3 := hg.L3
    have HN := Lib.hid (fun W => l01In_calls n 0 (7 - (L : Int)) W)
    have hgl : gLv M n = decide (0 ≤ n ∧ n ≤ 7 - (L : Int)) := by unfold gLv; rw [hg.hL, Bool.decide_and]
    have hgc : gCv M n = if gLv M n then 0 else 2 := by
      unfold gCv
      rw [if_pos hm]
    rw [← hgl] at HN
    cases hl : gLv M n
    · rw [hl] at HN hgc
      have Hr : Hid (gCv M n = 2) := Lib.hid (by rw [hgc]; rfl)
      clear hgc hgl hl
      go_enter Try.func41, Try.ntmps41
      go_wp2_with (first | (with_reducible show wpList _ _ _ _ _ _; refine wpList_load_blk rfl 28 (.tmp 2) rfl w.heap.size 0 rfl (mc M) _ (hB) 98 F2.out _ Try.underlying28 rfl size_mach ?_; rw [F1.out]) | (go_at_call 54; refine (HI.out _).mono ?_; rintro e w1 ⟨rfl, hb1⟩; have cA := (hB.keptAll hb1).cell 0; rw [hcL] at cA) | (go_at_call 36; refine (HN.out _).mono ?_; rintro e w' ⟨rfl, rfl⟩))
      go_ret
      exact ⟨ret_int Hr.out.symm, below_step hbw0 hb1⟩
    · rw [hl] at HN hgc
      have Hr : Hid (gCv M n = 0) := Lib.hid (by rw [hgc]; rfl)
      clear hgc hgl hl
      go_enter Try.func41, Try.ntmps41
      go_wp2_with (first | (with_reducible show wpList _ _ _ _ _ _; refine wpList_load_blk rfl 28 (.tmp 2) rfl w.heap.size 0 rfl (mc M) _ (hB) 98 F2.out _ Try.underlying28 rfl size_mach ?_; rw [F1.out]) | (go_at_call 54; refine (HI.out _).mono ?_; rintro e w1 ⟨rfl, hb1⟩; have cA := (hB.keptAll hb1).cell 0; rw [hcL] at cA) | (go_at_call 36; refine (HN.out _).mono ?_; rintro e w' ⟨rfl, rfl⟩))
      go_ret
      exact ⟨ret_int Hr.out.symm, below_step hbw0 hb1⟩

end Go.Proofs.Ytdbdoohcpcjfdaa
