/- 'l05Place': the model. -/
import Derived.Test.YticnpajbefflbabFxS
namespace Go.Proofs.Yticnpajbefflbab
open Go.RowKit

theorem l01In_r (n low high : Int) (r : Bool) (h : decide (low ≤ n ∧ n ≤ high) = r) (w : World) :
    Calls Try.prog 43 #[.int .i64 n, .int .i64 low, .int .i64 high] w fun e w' => e = .returned (.bool r) ∧ w' = w :=
  (l01In_calls n low high w).mono fun e w' h' => ⟨by rw [h'.1, h], h'.2.symm⟩
theorem inK_take (N : Nat) (ks : List Int) (j : Nat) (hj : j < ks.length) : inK N (ks.take (j + 1)) = (inK N (ks.take j) && (decide (0 ≤ ks[j]) && decide (ks[j] < (N : Int)))) := by
  unfold inK
  rw [List.take_succ_eq_append_getElem hj, List.all_append]
  simp
theorem inK_some (N : Nat) (ks : List Int) (j : Nat) (hj : j < ks.length) (h : ¬ (0 ≤ ks[j] ∧ ks[j] ≤ (N : Int) - 1)) : inK N ks = false := by
  cases hi : inK N ks
  · rfl
  · exfalso
    unfold inK at hi
    rw [List.all_eq_true] at hi
    have := hi _ (List.getElem_mem hj)
    simp only [Bool.and_eq_true, decide_eq_true_eq] at this
    omega
theorem gC_ks {M : Mach} {L S nn : Nat} (hg : Good M L S) (h : gC M nn [] = 0) (ks : List Int) : gC M nn ks = if inK (L ^ nn) ks = true then 0 else 2 := by
  unfold gC at h ⊢
  cases hm : isMach M
  · rw [hm] at h; simp at h
  · rw [if_pos rfl]
    rw [hm, if_pos rfl] at h
    cases hl : gLev M nn
    · rw [hl] at h; simp at h
    · rw [hg.hL, Int.toNat_natCast, Int.toNat_natCast, Bool.true_and]
theorem gC_bad {M : Mach} {n c : Int} (h : gC M n [] = c) (h0 : c ≠ 0) (ks : List Int) : gC M n ks = c := by
  unfold gC at h ⊢
  cases hm : isMach M
  · rw [hm] at h; simp at h; simp [h]
  · rw [if_pos rfl]
    rw [hm, if_pos rfl] at h
    cases hl : gLev M n
    · rw [hl] at h; simp at h; simp [h]
    · rw [hl] at h
      simp [inK] at h
      exact absurd h.symm h0

set_option maxRecDepth 100000 in
set_option maxHeartbeats 2000000 in
theorem l05Place_calls (M : Mach) (hok : M.Ok) (n : Int) (v : Value) (ks : List Int) (hks : ks.length ≤ 1000) (w : World) (hv : SeesI w v ks) :
    Calls Try.prog 34 #[.agg (mc M), .int .i64 n, v] w fun e w' => e = .returned (.int .i64 (gC M n ks)) ∧ Below w.heap.size w w' := by
  have F1 : Hid (cut (mc M) 0 98 = mc M) := Lib.hid (cut_all _ _ (mc_size hok)); have F2 : Hid (0 + 98 ≤ (mc M).size) := Lib.hid (by rw [mc_size hok]; omega)
  have hB : Blk (w.alloc (.cells (mc M) 29)) w.heap.size (mc M) 29 := Blk.new w _ _
  have hbw0 : Below w.heap.size w (w.alloc (.cells (mc M) 29)) := by (repeat (first | exact Below.refl _ _ | refine below_drew' ?_ | refine below_drewN' ?_ _ | refine below_alloc' ?_ _ | refine below_set' ?_ (by (try simp); (try omega)) _ | refine below_step ?_ (by assumption)))
  obtain ⟨oa, ca, hve, hvq⟩ := hv.view
  subst hve
  have Hv := Lib.hid hv
  clear hvq hv
  have HC := Lib.hid (l05Code_calls M hok n (w.alloc (.cells (mc M) 29)))
  by_cases hc : gC M n [] = 0
  · obtain ⟨L, S, nn, hg, rfl, hnL⟩ := gC_good hok hc
    have HG := Lib.hid (gC_ks hg hc ks)
    rw [hc] at HC
    have hcL := mc_L M
    rw [hg.hL] at hcL
    have HcL := Lib.hid hcL
    have hL2 := hg.L2
    have hL3 := hg.L3
    have HP := Lib.hid (fun W => (l01Power_calls L nn hL3 (by omega) W).mono fun e w' (h : _ ∧ W = w') => And.intro h.1 h.2.symm)
    have hp := pw_bd L nn hL3 (by omega)
    have hpw : pw L nn = ((L ^ nn : Nat) : Int) := rfl
    rw [hpw] at HP hp
    clear hc hcL hpw
    generalize L ^ nn = N at *
    go_enter Try.func34, Try.ntmps34
    go_wp2_with (first | (with_reducible show wpList _ _ _ _ _ _; refine wpList_load_blk rfl 29 (.tmp 3) rfl w.heap.size 0 rfl (mc M) _ (hB) 98 F2.out _ Try.underlying29 rfl size_mach ?_; rw [F1.out]) | (go_at_call 28; refine HC.out.mono ?_; rintro e w1 ⟨rfl, hb1⟩))
    have hB1 := hB.keptAll hb1
    have hbw1 := below_step hbw0 hb1
    clear hB hbw0 hb1
    go_loopw [8] (fun i wr => ∃ j : Nat, j ≤ ks.length ∧ i = .int .i64 j ∧ Hid (inK N (ks.take j) = true) ∧ Blk wr w.heap.size (mc M) 29 ∧ Below w.heap.size w wr) (fun i _ => ks.length - (intOf i).toNat)
    case atStart => exact ⟨0, by omega, rfl, Lib.hid (by simp [inK]), hB1, hbw1⟩
    case round =>
      clear hB1 hbw1
      obtain ⟨j, hj, rfl, HI, hB, hbw⟩ := hrel
      have cA := hB.cell 0
      rw [HcL.out] at cA
      by_cases hlt : j < ks.length
      · have hji : (j : Int) < (ks.length : Int) := by omega
        obtain ⟨gd, h1, _, cd⟩ := (Hv.out.below hbw).at j hlt
        subst h1
        have Ht := Lib.hid (inK_take N ks j hlt)
        have Hs := Lib.hid (inK_some N ks j hlt)
        generalize ks[j] = z at *
        by_cases hz : 0 ≤ z ∧ z ≤ (N : Int) - 1
        · have HN := Lib.hid (fun W => l01In_r z 0 ((N : Int) - 1) true (by simpa using hz) W)
          have Hn : Hid (inK N (ks.take (j + 1)) = true) := Lib.hid (by rw [Ht.out, HI.out]; simp; omega)
          clear Hs Ht HI
          go_wp2
          go_quiet ((first | (go_at_call 53; exact Calls.quiet_of_same (HP.out _)) | (go_at_call 43; exact Calls.quiet_of_same (HN.out _))))
          go_wp2
          go_roundw
          case rel => exact ⟨j + 1, by omega, by go_num, Hn, hB.drewN _, below_drewN' hbw _⟩
          case measure => simp [intOf] <;> omega
        · have HN := Lib.hid (fun W => l01In_r z 0 ((N : Int) - 1) false (by simpa using hz) W)
          have Hf := Lib.hid (Hs.out hz)
          clear Hs Ht HI hz
          go_wp2
          go_quiet ((first | (go_at_call 53; exact Calls.quiet_of_same (HP.out _)) | (go_at_call 43; exact Calls.quiet_of_same (HN.out _))))
          go_wp2
          go_ret
          exact ⟨ret_int (by rw [HG.out, Hf.out]; rfl), below_drewN' hbw _⟩
      · obtain rfl : j = ks.length := by omega
        rw [List.take_length] at HI
        go_wp2
        go_ret
        exact ⟨ret_int (by rw [HG.out, HI.out]; rfl), hbw⟩
  · obtain ⟨c, hcc⟩ : ∃ c, gC M n [] = c := ⟨_, rfl⟩
    rw [hcc] at hc HC
    have Hk := Lib.hid (gC_bad hcc hc ks)
    have hcb : (c == 0) = false := by simpa using hc
    clear hcc hc
    go_enter Try.func34, Try.ntmps34
    go_wp2_with (first | (with_reducible show wpList _ _ _ _ _ _; refine wpList_load_blk rfl 29 (.tmp 3) rfl w.heap.size 0 rfl (mc M) _ (hB) 98 F2.out _ Try.underlying29 rfl size_mach ?_; rw [F1.out]) | (go_at_call 28; refine HC.out.mono ?_; rintro e w1 ⟨rfl, hb1⟩))
    have hbw1 := below_step hbw0 hb1
    go_loopw [8] (fun i wr => i = .int .i64 0 ∧ Below w.heap.size w wr) (fun _ _ => 0)
    case atStart => exact ⟨rfl, hbw1⟩
    case round =>
      obtain ⟨rfl, hbw⟩ := hrel
      by_cases hlt : 0 < ks.length
      · have hji : (0 : Int) < (ks.length : Int) := by omega
        go_wp2
        go_ret
        exact ⟨ret_int Hk.out.symm, hbw⟩
      · have hji : ¬ (0 : Int) < (ks.length : Int) := by omega
        go_wp2
        go_ret
        exact ⟨ret_int Hk.out.symm, hbw⟩
end Go.Proofs.Yticnpajbefflbab
