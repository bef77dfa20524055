/- 'IsBoundedMachine': plain data; program and model. -/
import Derived.Test.YtdbdoohcpcjfdaaKnI
namespace Go.Proofs.Ytdbdoohcpcjfdaa
open Go.RowKit

/-- Are the kinds of the first k states those of bounded machines? -/
def ibU (M : Mach) (L S k : Nat) : Bool := (List.range k).all fun q => decide (kdN M L S q ≤ 1)
theorem ibU_succ (M : Mach) (L S k : Nat) : ibU M L S (k + 1) = (ibU M L S k && decide (kdN M L S k ≤ 1)) := by simp [ibU, List.range_succ]
theorem ibU_up (M : Mach) (L S k n : Nat) (hk : k ≤ n) (h : ibU M L S k = false) : ibU M L S n = false := by
  unfold ibU at *
  rw [List.all_eq_false] at *
  obtain ⟨q, hq, e⟩ := h
  exact ⟨q, List.mem_range.2 (by have := List.mem_range.1 hq; omega), e⟩
/-- The same, told by the kinds of the states of the minimal machine. -/
def ibV (f : Nat → Nat) (k : Nat) : Bool := (List.range k).all fun p => decide (f p ≤ 1)
theorem ibV_succ (f : Nat → Nat) (k : Nat) : ibV f (k + 1) = (ibV f k && decide (f k ≤ 1)) := by simp [ibV, List.range_succ]
theorem ibV_up (f : Nat → Nat) (k n : Nat) (hk : k ≤ n) (h : ibV f k = false) : ibV f n = false := by
  unfold ibV at *
  rw [List.all_eq_false] at *
  obtain ⟨q, hq, e⟩ := h
  exact ⟨q, List.mem_range.2 (by have := List.mem_range.1 hq; omega), e⟩
theorem ibV_ibU {M : Mach} {L S : Nat} (f : Nat → Nat) (hf : ∀ p, p < cntT M L S S → f p = tkK (cntT M L S S) (rB (mnAll M L S S) L (cntT M L S S)) (dbV (mnAll M L S S) L (cntT M L S S) (rB (mnAll M L S S) L (cntT M L S S))) p) : ibV f (cntT M L S S) = ibU M L S S := by
  rw [Bool.eq_iff_iff]
  unfold ibV ibU
  rw [List.all_eq_true, List.all_eq_true]
  constructor
  · intro h q hq
    have hqS := List.mem_range.1 hq
    have := h (numT M L S q) (List.mem_range.2 (numT_lt M L S q S hqS))
    rw [hf _ (numT_lt M L S q S hqS)] at this
    exact this
  · intro h p hp
    obtain ⟨q, hq, rfl⟩ := numT_onto M L S S p (List.mem_range.1 hp)
    rw [hf _ (List.mem_range.1 hp)]
    exact h q (List.mem_range.2 hq)
def ibC (M : Mach) : Int := if isMach M = true then 0 else 1
def ibR (M : Mach) : Bool := if isMach M = true then ibU M M.L.toNat M.S.toNat M.S.toNat else false
theorem ibR_good {M : Mach} {L S : Nat} (hg : Good M L S) : ibR M = ibU M L S S := by
  unfold ibR
  rw [if_pos hg.isMach, hg.hL, hg.hS]
  rfl
theorem ret_bo {a b : Bool} {m m' : Int} (h : a = b) (h' : m = m') : Ending.returned (.tuple #[.bool a, .int .i64 m]) = Ending.returned (.tuple #[.bool b, .int .i64 m']) := by rw [h, h']
theorem kd_test (n : Nat) : (kN0 n = 2 ∧ decide (n ≤ 1) = false) ∨ (kN0 n ≠ 2 ∧ kN1 n > 0 ∧ decide (n ≤ 1) = false) ∨ (kN0 n ≠ 2 ∧ kN1 n = 0 ∧ decide (n ≤ 1) = true) := by
  have hE : kE = 1000 := rfl
  by_cases h0 : n = 0
  · subst h0; exact .inr (.inr ⟨by decide, rfl, rfl⟩)
  · by_cases h1 : n = kE
    · subst h1; exact .inl ⟨rfl, rfl⟩
    · obtain ⟨e0, e1⟩ := kN_P h0 h1
      rw [e0, e1]
      by_cases h2 : n ≤ 1
      · exact .inr (.inr ⟨by omega, by omega, decide_eq_true h2⟩)
      · exact .inr (.inl ⟨by omega, by omega, decide_eq_false h2⟩)

set_option maxRecDepth 100000 in
set_option maxHeartbeats 2000000 in
theorem sIsBoundedMachine_calls (M : Mach) (hok : M.Ok) (w : World) :
    Calls Try.prog 26 #[.agg (mc M)] w fun e w' => e = .returned (.tuple #[.bool (ibR M), .int .i64 (ibC M)]) ∧ Below w.heap.size w w' := by
  have F1 : Hid (cut (mc M) 0 98 = mc M) := Lib.hid (cut_all _ _ (mc_size hok)); have F2 : Hid (0 + 98 ≤ (mc M).size) := Lib.hid (by rw [mc_size hok]; omega)
  have hB : Blk (w.alloc (.cells (mc M) 28)) w.heap.size (mc M) 28 := Blk.new w _ _
  have hbw0 : Below w.heap.size w (w.alloc (.cells (mc M) 28)) := by (repeat (first | exact Below.refl _ _ | refine below_drew' ?_ | refine below_drewN' ?_ _ | refine below_alloc' ?_ _ | refine below_set' ?_ (by (try simp); (try omega)) _ | refine below_step ?_ (by assumption)))
  have HI := Lib.hid (fun W => l01Is_calls M hok W)
  cases hm : isMach M
  · have Hc : Hid (ibC M = 1) := Lib.hid (by unfold ibC; rw [hm]; rfl)
    have Hr : Hid (ibR M = false) := Lib.hid (by unfold ibR; rw [hm]; rfl)
    rw [hm] at HI
    clear hm
    go_enter Try.func26, Try.ntmps26
    go_wp2_with (first | (with_reducible show wpList _ _ _ _ _ _; refine wpList_load_blk rfl 28 (.tmp 1) rfl w.heap.size 0 rfl (mc M) _ (hB) 98 F2.out _ Try.underlying28 rfl size_mach ?_; rw [F1.out]) | (go_at_call 54; refine (HI.out _).mono ?_; rintro e w1 ⟨rfl, hb1⟩))
    go_ret2
    exact ⟨ret_bo Hr.out.symm Hc.out.symm, below_step hbw0 hb1⟩
  · obtain ⟨L, S, hg⟩ := Good.of hok hm
    have Hc : Hid (ibC M = 0) := Lib.hid (by unfold ibC; rw [hm]; rfl)
    have Hr := Lib.hid (ibR_good hg)
    rw [hm] at HI
    have hcS := mc_S M
    rw [hg.hS] at hcS
    have HcS := Lib.hid hcS
    have HK := Lib.hid (fun q hq W => l09Kind_calls M L S hg q hq W)
    have Hs := Lib.hid (ibU_succ M L S)
    have Hup := Lib.hid (fun k hk => ibU_up M L S k S hk)
    have hS16 := hg.S16
    clear hm hg hcS
    go_enter Try.func26, Try.ntmps26
    go_wp2_with (first | (with_reducible show wpList _ _ _ _ _ _; refine wpList_load_blk rfl 28 (.tmp 1) rfl w.heap.size 0 rfl (mc M) _ (hB) 98 F2.out _ Try.underlying28 rfl size_mach ?_; rw [F1.out]) | (go_at_call 54; refine (HI.out _).mono ?_; rintro e w1 ⟨rfl, hb1⟩))
    have hB1 := hB.keptAll hb1
    have hbw1 := below_step hbw0 hb1
    clear hB hb1 hbw0
    go_loopw [4] (fun i wr => ∃ k : Nat, k ≤ S ∧ i = .int .i64 k ∧ Hid (ibU M L S k = true) ∧ Blk wr w.heap.size (mc M) 28 ∧ Below w.heap.size w wr) (fun i _ => S - (intOf i).toNat)
    case atStart => exact ⟨0, by omega, rfl, Lib.hid rfl, hB1, hbw1⟩
    case round =>
      clear hB1 hbw1
      obtain ⟨k, hk, rfl, HU, hB, hbw⟩ := hrel
      have cS := hB.cell 1
      rw [HcS.out] at cS
      by_cases hlt : k < S
      · have hki : (k : Int) < (S : Int) := by omega
        have HK1 := Lib.hid (HK.out k hlt)
        have hsk := Hs.out k
        rw [HU.out, Bool.true_and] at hsk
        have Hsk := Lib.hid hsk
        have hkt := kd_test (kdN M L S k)
        have Hupk := Lib.hid (Hup.out (k + 1) hlt)
        clear hsk
        generalize kN0 (kdN M L S k) = k0 at *
        generalize kN1 (kdN M L S k) = k1 at *
        rcases hkt with ⟨h1, h2⟩ | ⟨h1, h2, h3⟩ | ⟨h1, h2, h3⟩
        · have Hf : Hid (ibR M = false) := Lib.hid (by rw [Hr.out]; exact Hupk.out (by rw [Hsk.out, h2]))
          subst h1
          clear h2
          go_wp2_with (first | (with_reducible show wpList _ _ _ _ _ _; refine wpList_load_blk rfl 28 (.tmp 1) rfl w.heap.size 0 rfl (mc M) _ (hB) 98 F2.out _ Try.underlying28 rfl size_mach ?_; rw [F1.out]) | (go_at_call 50; refine (HK1.out _).mono ?_; rintro e w2 ⟨rfl, hb2⟩))
          go_ret2
          exact ⟨ret_bo Hf.out.symm Hc.out.symm, below_step hbw hb2⟩
        · have Hf : Hid (ibR M = false) := Lib.hid (by rw [Hr.out]; exact Hupk.out (by rw [Hsk.out, h3]))
          have hb1 : (k0 == 2) = false := by simpa using h1
          have hg0 : 0 < k1 := h2
          clear h1 h2 h3
          go_wp2_with (first | (with_reducible show wpList _ _ _ _ _ _; refine wpList_load_blk rfl 28 (.tmp 1) rfl w.heap.size 0 rfl (mc M) _ (hB) 98 F2.out _ Try.underlying28 rfl size_mach ?_; rw [F1.out]) | (go_at_call 50; refine (HK1.out _).mono ?_; rintro e w2 ⟨rfl, hb2⟩))
          go_ret2
          exact ⟨ret_bo Hf.out.symm Hc.out.symm, below_step hbw hb2⟩
        · have Ht : Hid (ibU M L S (k + 1) = true) := Lib.hid (by rw [Hsk.out, h3])
          have hb1 : (k0 == 2) = false := by simpa using h1
          subst h2
          clear h1 h3
          go_wp2_with (first | (with_reducible show wpList _ _ _ _ _ _; refine wpList_load_blk rfl 28 (.tmp 1) rfl w.heap.size 0 rfl (mc M) _ (hB) 98 F2.out _ Try.underlying28 rfl size_mach ?_; rw [F1.out]) | (go_at_call 50; refine (HK1.out _).mono ?_; rintro e w2 ⟨rfl, hb2⟩))
          go_roundw
          case rel => exact ⟨k + 1, by omega, by go_num, Ht, hB.keptAll hb2, below_step hbw hb2⟩
          case measure => simp [intOf] <;> omega
      · have hkn : ¬ ((k : Int) < (S : Int)) := by omega
        have hke : k = S := by omega
        have Ht : Hid (ibR M = true) := Lib.hid (by rw [Hr.out, ← hke]; exact hke ▸ HU.out)
        clear hke
        go_wp2
        go_ret2
        exact ⟨ret_bo Ht.out.symm Hc.out.symm, hbw⟩

set_option maxRecDepth 100000 in
set_option maxHeartbeats 2000000 in
theorem iIsBoundedMachine_calls (M : Mach) (hok : M.Ok) (w : World) :
    Calls Try.prog 27 #[.agg (mc M)] w fun e w' => e = .returned (.tuple #[.bool (ibR M), .int .i64 (ibC M)]) ∧ Below w.heap.size w w' := by
  have F1 : Hid (cut (mc M) 0 98 = mc M) := Lib.hid (cut_all _ _ (mc_size hok)); have F2 : Hid (0 + 98 ≤ (mc M).size) := Lib.hid (by rw [mc_size hok]; omega)
  have hB0 : Blk (w.alloc (.cells (mc M) 28)) w.heap.size (mc M) 28 := Blk.new w _ _
  have hbw0 : Below w.heap.size w (w.alloc (.cells (mc M) 28)) := by (repeat (first | exact Below.refl _ _ | refine below_drew' ?_ | refine below_drewN' ?_ _ | refine below_alloc' ?_ _ | refine below_set' ?_ (by (try simp); (try omega)) _ | refine below_step ?_ (by assumption)))
  have hz := zero_mach
  have hzk := zero_k16
  have Hzk : Hid (nilK.size = 16) := Lib.hid (by simp [nilK])
  have HzS : Hid ((mc zeroM).size = 98) := Lib.hid (mc_size zeroM_ok)
  have hf1 := fun W => iMinimalMachine_calls M hok W
  cases hm : isMach M
  · have Hc : Hid (ibC M = 1) := Lib.hid (by unfold ibC; rw [hm]; rfl)
    have Hr : Hid (ibR M = false) := Lib.hid (by unfold ibR; rw [hm]; rfl)
    rw [show minC M = 1 from by simp [minC, hm], show minR M = zeroM from by simp [minR, hm]] at hf1
    have HF := Lib.hid hf1
    have Hmo : Hid (over (mc zeroM) 0 (mc zeroM) = mc zeroM) := Lib.hid (over_all _ _ rfl)
    clear hf1 hm
    go_enter Try.func27, Try.ntmps27
    go_wp2_with (first | (with_reducible show wpList _ _ _ _ _ _; refine wpList_load_blk rfl 28 (.tmp 1) rfl w.heap.size 0 rfl (mc M) _ (hB0) 98 F2.out _ Try.underlying28 rfl size_mach ?_; rw [F1.out]) | (go_at_call 52; refine (HF.out _).mono ?_; rintro e w1 ⟨v1, rfl, hv1, hb1⟩; have hX1 : Blk (w1.alloc (.cells (mc zeroM) 28)) w1.heap.size (mc zeroM) 28 := Blk.new _ _ _; have hbw1 := below_alloc' (below_step hbw0 hb1) (.cells (mc zeroM) 28); have hs1 := (below_step hbw0 hb1).size) | (with_reducible show wpList _ _ _ _ _ _; refine wpList_store_row rfl 28 _ _ rfl w1.heap.size 0 (mc zeroM) rfl rfl _ _ hX1 (by rw [HzS.out]; omega) (by rw [HzS.out]; exact size_mach) (mc_one _) _ Hmo.out ?_; intro w3 hs3))
    go_ret2
    exact ⟨ret_bo Hr.out.symm Hc.out.symm, hs3.below _ _ (by omega) hbw1⟩
  · obtain ⟨L, S, hg⟩ := Good.of hok hm
    have hsg := sm_good hg
    have hS16 := hg.S16
    have hK16 := hsg.S16
    have Hms := Lib.hid (mc_size hsg.ok)
    have Hmo : Hid (over (mc zeroM) 0 (mc (mnAll M L S S)) = mc (mnAll M L S S)) := Lib.hid (over_all _ _ (by rw [Hms.out, HzS.out]))
    have Hmc : Hid (cut (mc (mnAll M L S S)) 0 98 = mc (mnAll M L S S)) := Lib.hid (cut_all _ _ Hms.out)
    have hcS := mc_S (mnAll M L S S)
    rw [hsg.hS] at hcS
    have HcS := Lib.hid hcS
    rw [show minC M = 0 from by simp [minC, hm], show minR M = mnAll M L S S from by simp [minR, hm, hg.hL, hg.hS], show minN M = numsT M L S S from by simp [minN, hm, hg.hL, hg.hS]] at hf1
    have HF := Lib.hid hf1
    have Hc : Hid (ibC M = 0) := Lib.hid (by unfold ibC; rw [hm]; rfl)
    have Hr := Lib.hid (ibR_good hg)
    have Hiv := Lib.hid (fun f hf => ibV_ibU (M := M) (L := L) (S := S) f hf)
    have HKs := Lib.hid (fun W => kindsOf_calls (mnAll M L S S) L (cntT M L S S) hsg (sm_stay hg) W)
    clear hf1 hm hsg hg hcS
    generalize mnAll M L S S = sm at *
    generalize cntT M L S S = K at *
    generalize hNk : nilK = nK at *
    clear hNk
    go_enter Try.func27, Try.ntmps27
    go_wp2_with (first | (with_reducible show wpList _ _ _ _ _ _; refine wpList_load_blk rfl 28 (.tmp 1) rfl w.heap.size 0 rfl (mc M) _ (hB0) 98 F2.out _ Try.underlying28 rfl size_mach ?_; rw [F1.out]) | (go_at_call 52; refine (HF.out _).mono ?_; rintro e w1 ⟨v1, rfl, hv1, hb1⟩; have hX1 : Blk (w1.alloc (.cells (mc zeroM) 28)) w1.heap.size (mc zeroM) 28 := Blk.new _ _ _; have hbw1 := below_alloc' (below_step hbw0 hb1) (.cells (mc zeroM) 28); have hs1 := (below_step hbw0 hb1).size) | (with_reducible show wpList _ _ _ _ _ _; refine wpList_store_row rfl 28 _ _ rfl w1.heap.size 0 (mc sm) rfl rfl _ _ hX1 (by rw [Hms.out, HzS.out]; omega) (by rw [Hms.out]; exact size_mach) (mc_one _) _ Hmo.out ?_; intro w3 hs3; have hX3 := hs3.blk; have hbw3 := hs3.below _ _ (by omega) hbw1) | (with_reducible show wpList _ _ _ _ _ _; refine wpList_load_blk rfl 28 (.tmp 4) rfl w1.heap.size 0 rfl (mc sm) _ hX3 98 (by rw [Hms.out]; omega) _ Try.underlying28 rfl size_mach ?_; rw [Hmc.out]) | (go_at_call 53; refine (HKs.out _).mono ?_; rintro e w4 ⟨⟨f, rfl, hfk, hfE⟩, hb4⟩; have Hfk := Lib.hid (Hiv.out f hfk); have HfE := Lib.hid hfE; have hX4 := (hX3.keptAll hb4).alloc (.cells nK 69); have hK4 : Blk (w4.alloc (.cells nK 69)) w4.heap.size nK 69 := Blk.new _ _ _; have hbw4 := below_alloc' (below_step hbw3 hb4) (.cells nK 69); have hXl := (hX3.keptAll hb4).lt; have Hcs : Hid ((kC f).size = 16) := Lib.hid (kC_size f); have Hov : Hid (over nK 0 (kC f) = kC f) := Lib.hid (over_all _ _ (by rw [Hcs.out, Hzk.out])); clear hfk hfE) | (with_reducible show wpList _ _ _ _ _ _; refine wpList_store_row rfl 69 (.tmp 7) (.tmp 19) rfl w4.heap.size 0 (kC f) rfl rfl _ _ hK4 (by rw [Hzk.out, Hcs.out]; omega) (by rw [Hcs.out]; exact size_k16) (kC_one _) _ Hov.out ?_; intro w5 hs5; have hX5 := hs5.keep (by omega) hX4; have hK5 := hs5.blk; have hsw := (below_step hbw3 hb4).size; have hbw5 := hs5.below _ _ hsw hbw4; have cS5 := hX5.cell 1; rw [HcS.out] at cS5))
    clear hX1 hbw1 hs3 hX3 hbw3 hb1 hb4 hX4 hK4 hbw4 hs5 hz hzk cS5 hB0 hbw0 hv1
    generalize w1.heap.size = gX at *
    generalize w4.heap.size = gK at *
    go_loopw [22] (fun i wr => ∃ k : Nat, k ≤ K ∧ i = .int .i64 k ∧ Hid (ibV f k = true) ∧ Blk wr gK (kC f) 69 ∧ Below w.heap.size w wr) (fun i _ => K - (intOf i).toNat)
    case atStart => exact ⟨0, by omega, rfl, Lib.hid rfl, hK5, hbw5⟩
    case round =>
      clear hK5 hbw5 hX5
      obtain ⟨k, hk, rfl, HU, hKb, hbw⟩ := hrel
      by_cases hlt : k < K
      · have hki : (k : Int) < (K : Int) := by omega
        have hk16 : (k : Int) < 16 := by omega
        have ck := hKb.cell k
        rw [kC_at f k (by omega)] at ck
        have HB := Lib.hid (fun W => isBounded_calls (f k) (HfE.out k (by omega)) W)
        have hsk := ibV_succ f k
        rw [HU.out, Bool.true_and] at hsk
        have Hsk := Lib.hid hsk
        clear hsk
        cases hd : decide (f k ≤ 1)
        · have Hf : Hid (ibR M = false) := Lib.hid (by rw [Hr.out, ← Hfk.out]; exact ibV_up f (k + 1) K hlt (by rw [Hsk.out, hd]))
          rw [hd] at HB
          clear hd
          generalize kV (f k) = kv at *
          go_wp2_with (go_at_call 55; refine (HB.out _).mono ?_; rintro e w6 ⟨rfl, hb6⟩)
          go_ret2
          exact ⟨ret_bo Hf.out.symm Hc.out.symm, below_step hbw hb6⟩
        · have Ht : Hid (ibV f (k + 1) = true) := Lib.hid (by rw [Hsk.out, hd])
          rw [hd] at HB
          clear hd
          generalize kV (f k) = kv at *
          go_wp2_with (go_at_call 55; refine (HB.out _).mono ?_; rintro e w6 ⟨rfl, hb6⟩)
          go_roundw
          case rel => exact ⟨k + 1, by omega, by go_num, Ht, hKb.keptAll hb6, below_step hbw hb6⟩
          case measure => simp [intOf] <;> omega
      · have hkn : ¬ ((k : Int) < (K : Int)) := by omega
        have hke : k = K := by omega
        have Ht : Hid (ibR M = true) := Lib.hid (by rw [Hr.out, ← Hfk.out, ← hke]; exact HU.out)
        clear hke
        go_wp2
        go_ret2
        exact ⟨ret_bo Ht.out.symm Hc.out.symm, hbw⟩
end Go.Proofs.Ytdbdoohcpcjfdaa
