/- 'cyclesOf', 'TurnsLevel': plain data; the program. -/
import Derived.Test.YticnpajbefflbaaGrI
import Derived.Test.YticnpajbefflbaaLevL
import Derived.Test.YticnpajbefflbaaCyc
namespace Go.Proofs.Yticnpajbefflbaa
open Go.RowKit

def ctC (M : Mach) (q n : Int) : Int := if isMach M = true then (if (0 ≤ q ∧ q < M.S) ∧ gLev M n = true then 0 else 2) else 1
def ctL (M : Mach) (q n : Int) : List Int := if ctC M q n = 0 then cycL (permL M M.L.toNat q.toNat n.toNat) else []
theorem ct_good {M : Mach} {q n : Int} (hok : M.Ok) (h : ctC M q n = 0) : ∃ L S qq nn : Nat, Good M L S ∧ q = (qq : Int) ∧ qq < S ∧ n = (nn : Int) ∧ nn + L ≤ 7 ∧ ctL M q n = cycL (permL M L qq nn) ∧ permCode M q n = 0 ∧ permRes M q n = permL M L qq nn ∧ gLev M n = true := by
  have h0 := h
  unfold ctC at h
  cases hm : isMach M
  · rw [hm] at h; simp at h
  · rw [if_pos hm] at h
    split at h
    · rename_i hq
      obtain ⟨L, S, hg⟩ := Good.of hok hm
      obtain ⟨qq, rfl⟩ := Int.eq_ofNat_of_zero_le hq.1.1
      have hl := hq.2
      unfold gLev at hl
      rw [hg.hL] at hl
      simp at hl
      obtain ⟨nn, rfl⟩ := Int.eq_ofNat_of_zero_le hl.1
      have hS := hg.hS
      have hL2 := hg.L2
      have hq1 := hq.1
      have hn5 : 0 ≤ (nn : Int) ∧ (nn : Int) ≤ 5 := by omega
      refine ⟨L, S, qq, nn, hg, rfl, by omega, rfl, by omega, ?_, ?_, ?_, hq.2⟩
      · unfold ctL; rw [if_pos h0, hg.hL]; rfl
      · simp only [permCode, hm]; rw [if_neg (by simp), if_pos ⟨hq1, hn5⟩]
      · exact perm_good hg.hL ⟨hm, hq1, hn5⟩
    · exact absurd h (by omega)
theorem perm_in {M : Mach} {L S : Nat} (hg : Good M L S) (q n : Nat) (hq : q < S) : inB (permL M L q n) := by
  intro p hp
  rw [permL_len] at hp ⊢
  have hb := permAt_bd hg q n p hq
  have e : (permL M L q n).getD p 0 = permAt M L q n p := by simp [List.getD, permL, List.getElem?_range hp]
  rw [e]
  omega
def tvR (M : Mach) (q n : Int) : Bool := decide ((ctL M q n).length = 1)
theorem ret_bt {a b : Bool} {i j : Int} (h : a = b) (h' : i = j) : Ending.returned (.tuple #[.bool a, .int .i64 i]) = Ending.returned (.tuple #[.bool b, .int .i64 j]) := by rw [h, h']

set_option maxRecDepth 100000 in
set_option maxHeartbeats 1000000 in
theorem cyclesOf_calls (M : Mach) (hok : M.Ok) (q n : Int) (w : World) :
    Calls Try.prog 52 #[.agg (mc M), .int .i64 q, .int .i64 n] w fun e w' => ∃ v, e = .returned (.tuple #[v, .int .i64 (ctC M q n)]) ∧ OwnI w' w.heap.size v (ctL M q n) ∧ Below w.heap.size w w' := by
  have F1 : Hid (cut (mc M) 0 98 = mc M) := Lib.hid (cut_all _ _ (mc_size hok)); have F2 : Hid (0 + 98 ≤ (mc M).size) := Lib.hid (by rw [mc_size hok]; omega)
  have hB : Blk (w.alloc (.cells (mc M) 29)) w.heap.size (mc M) 29 := Blk.new w _ _
  have hbw0 : Below w.heap.size w (w.alloc (.cells (mc M) 29)) := by (repeat (first | exact Below.refl _ _ | refine below_drew' ?_ | refine below_drewN' ?_ _ | refine below_alloc' ?_ _ | refine below_set' ?_ (by (try simp); (try omega)) _ | refine below_step ?_ (by assumption)))
  have HP := Lib.hid (iLevel_calls M hok q n (w.alloc (.cells (mc M) 29)))
  by_cases hc : ctC M q n = 0
  · obtain ⟨L, S, qq, nn, hg, rfl, hq, rfl, hn, e1, e2, e3, e4⟩ := ct_good hok hc
    rw [hc, e1]
    rw [e2, e3] at HP
    have hcL := mc_L M
    rw [hg.hL] at hcL
    have HcL := Lib.hid hcL
    have HI := Lib.hid (fun W => isGraphLevel_calls L hg.L23 nn W)
    rw [show (decide (0 ≤ (nn : Int)) && decide ((nn : Int) ≤ 7 - (L : Int))) = gLev M nn by unfold gLev; rw [hg.hL], e4] at HI
    have HCy := Lib.hid (fun v W h => cycleLengths_calls v (permL M L qq nn) (perm_in hg qq nn hq) (by rw [permL_len]; have := hg.L2; exact Nat.le_trans (pow_le L nn hg.L3 (by omega)) (by omega)) W h)
    clear hc e1 e2 e3 e4 hcL
    generalize permL M L qq nn = im at *
    go_enter Try.func52, Try.ntmps52
    go_wp2_with (first | (with_reducible show wpList _ _ _ _ _ _; refine wpList_load_blk rfl 29 (.tmp 3) rfl w.heap.size 0 rfl (mc M) _ (hB) 98 F2.out _ Try.underlying29 rfl size_mach ?_; rw [F1.out]) | (go_at_call 77; refine HP.out.mono ?_; rintro e w1 ⟨v1, rfl, hO1, hb1⟩; have cA := (hB.keptAll hb1).cell 0; rw [HcL.out] at cA; have hbw1 := below_step hbw0 hb1; have hs1 := hO1.sees; obtain ⟨o1, c1, rfl, hqq⟩ := hO1.view; clear hqq hO1) | (go_at_call 78; refine (HI.out _).mono ?_; rintro e w' ⟨rfl, rfl⟩) | (go_at_call 66; refine (HCy.out _ _ hs1).mono ?_; rintro e w2 ⟨v2, rfl, hO2, hb2⟩))
    go_ret2
    exact ⟨_, rfl, hO2.base_le' hbw1.size, below_step hbw1 hb2⟩
  · have Hr : Hid (ctL M q n = []) := Lib.hid (by unfold ctL; rw [if_neg hc])
    rw [Hr.out]
    by_cases hp : permCode M q n = 0
    · have hm : isMach M = true := by
        cases hm : isMach M
        · simp [permCode, hm] at hp
        · rfl
      obtain ⟨L, S, hg⟩ := Good.of hok hm
      have hr : (0 ≤ q ∧ q < M.S) ∧ (0 ≤ n ∧ n ≤ 5) := by
        simp only [permCode, hm] at hp
        rw [if_neg (by simp)] at hp
        by_cases h : (0 ≤ q ∧ q < M.S) ∧ (0 ≤ n ∧ n ≤ 5)
        · exact h
        · rw [if_neg h] at hp; exact absurd hp (by omega)
      have hl : gLev M n = false := by
        cases hl : gLev M n
        · rfl
        · exact absurd (by unfold ctC; rw [if_pos hm, if_pos ⟨hr.1, hl⟩]) hc
      have Hk : Hid (ctC M q n = 2) := Lib.hid (by unfold ctC; rw [if_pos hm, if_neg (by rw [hl]; simp)])
      rw [Hk.out]
      rw [hp] at HP
      have hcL := mc_L M
      rw [hg.hL] at hcL
      have HcL := Lib.hid hcL
      have HI := Lib.hid (fun W => isGraphLevel_calls L hg.L23 n W)
      rw [show (decide (0 ≤ n) && decide (n ≤ 7 - (L : Int))) = gLev M n by unfold gLev; rw [hg.hL], hl] at HI
      clear hc hp hr hl hcL
      go_enter Try.func52, Try.ntmps52
      go_wp2_with (first | (with_reducible show wpList _ _ _ _ _ _; refine wpList_load_blk rfl 29 (.tmp 3) rfl w.heap.size 0 rfl (mc M) _ (hB) 98 F2.out _ Try.underlying29 rfl size_mach ?_; rw [F1.out]) | (go_at_call 77; refine HP.out.mono ?_; rintro e w1 ⟨v1, rfl, hO1, hb1⟩; have cA := (hB.keptAll hb1).cell 0; rw [HcL.out] at cA; have hbw1 := below_step hbw0 hb1) | (go_at_call 78; refine (HI.out _).mono ?_; rintro e w' ⟨rfl, rfl⟩))
      go_ret2
      exact ⟨_, rfl, OwnI.nil _ _, hbw1⟩
    · have Hk : Hid (ctC M q n = permCode M q n) := Lib.hid (by
        cases hm : isMach M
        · simp [ctC, permCode, hm]
        · have h2 : permCode M q n = 2 := by
            simp only [permCode, hm] at hp ⊢
            rw [if_neg (by simp)] at hp ⊢
            by_cases h : (0 ≤ q ∧ q < M.S) ∧ (0 ≤ n ∧ n ≤ 5)
            · rw [if_pos h] at hp; exact absurd rfl hp
            · rw [if_neg h]
          rw [h2]
          unfold ctC at hc ⊢
          rw [if_pos hm] at hc ⊢
          split
          · rename_i h; rw [if_pos h] at hc; exact absurd rfl hc
          · rfl)
      rw [Hk.out]
      obtain ⟨c, hcc⟩ : ∃ c, permCode M q n = c := ⟨_, rfl⟩
      rw [hcc] at hp HP ⊢
      have hcb : (c != 0) = true := by simpa using hp
      clear hc hp hcc
      go_enter Try.func52, Try.ntmps52
      go_wp2_with (first | (with_reducible show wpList _ _ _ _ _ _; refine wpList_load_blk rfl 29 (.tmp 3) rfl w.heap.size 0 rfl (mc M) _ (hB) 98 F2.out _ Try.underlying29 rfl size_mach ?_; rw [F1.out]) | (go_at_call 77; refine HP.out.mono ?_; rintro e w1 ⟨v1, rfl, hO1, hb1⟩; have hbw1 := below_step hbw0 hb1))
      go_ret2
      exact ⟨_, rfl, OwnI.nil _ _, hbw1⟩

set_option maxRecDepth 100000 in
set_option maxHeartbeats 1000000 in
theorem iTurnsLevel_calls (M : Mach) (hok : M.Ok) (q n : Int) (w : World) :
    Calls Try.prog 26 #[.agg (mc M), .int .i64 q, .int .i64 n] w fun e w' => e = .returned (.tuple #[.bool (tvR M q n), .int .i64 (ctC M q n)]) ∧ Below w.heap.size w w' := by
  have F1 : Hid (cut (mc M) 0 98 = mc M) := Lib.hid (cut_all _ _ (mc_size hok)); have F2 : Hid (0 + 98 ≤ (mc M).size) := Lib.hid (by rw [mc_size hok]; omega)
  have hB : Blk (w.alloc (.cells (mc M) 29)) w.heap.size (mc M) 29 := Blk.new w _ _
  have hbw0 : Below w.heap.size w (w.alloc (.cells (mc M) 29)) := by (repeat (first | exact Below.refl _ _ | refine below_drew' ?_ | refine below_drewN' ?_ _ | refine below_alloc' ?_ _ | refine below_set' ?_ (by (try simp); (try omega)) _ | refine below_step ?_ (by assumption)))
  have HP := Lib.hid (cyclesOf_calls M hok q n (w.alloc (.cells (mc M) 29)))
  have HR : Hid (tvR M q n = decide ((ctL M q n).length = 1)) := Lib.hid rfl
  rw [HR.out]
  generalize ctL M q n = cl at *
  generalize ctC M q n = cc at *
  go_enter Try.func26, Try.ntmps26
  go_wp2_with (first | (with_reducible show wpList _ _ _ _ _ _; refine wpList_load_blk rfl 29 (.tmp 3) rfl w.heap.size 0 rfl (mc M) _ (hB) 98 F2.out _ Try.underlying29 rfl size_mach ?_; rw [F1.out]) | (go_at_call 52; refine HP.out.mono ?_; rintro e w1 ⟨v1, rfl, hO1, hb1⟩; obtain ⟨o1, c1, rfl, hqq⟩ := hO1.view; clear hqq hO1))
  go_ret2
  exact ⟨ret_bt (by rw [Bool.eq_iff_iff, decide_eq_true_iff]; constructor <;> intro hh <;> first | (simp at hh; omega) | (simp; omega) | omega) rfl, below_step hbw0 hb1⟩
end Go.Proofs.Yticnpajbefflbaa
