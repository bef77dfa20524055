/- 'DepthOfState': plain data; program and model. -/
import Derived.Test.YtdbdoohcpcjfdaaKdU
import Derived.Test.YtdbdoohcpcjfdaaAyS
namespace Go.Proofs.Ytdbdoohcpcjfdaa
open Go.RowKit

set_option maxRecDepth 100000 in
set_option maxHeartbeats 1000000 in
theorem Index_first (v : Value) (zs : List Int) (k : Int) (hl : zs.length ≤ 100000) (w : World) (hv : SeesI w v zs) :
    Calls Try.prog 51 #[v, .int .i64 k] w fun e w' => ∃ r : Int, e = .returned (.int .i64 r) ∧ ((∃ i : Nat, r = (i : Int) ∧ i < zs.length ∧ zs.getD i 0 = k ∧ ∀ j, j < i → zs.getD j 0 ≠ k) ∨ (r = -1 ∧ ∀ j, j < zs.length → zs.getD j 0 ≠ k)) ∧ w' = w := by
  obtain ⟨oa, cap, rfl, hc⟩ := hv.view
  have HC := Lib.hid hc
  clear hc hv
  go_enter Try.func51, Try.ntmps51
  go_wp2
  go_loopw [8] (fun iv wr => ∃ i : Nat, i ≤ zs.length ∧ iv = .int .i64 i ∧ Hid (∀ j, j < i → zs.getD j 0 ≠ k) ∧ wr = w) (fun iv _ => zs.length - (intOf iv).toNat)
  case atStart => exact ⟨0, Nat.zero_le _, rfl, Lib.hid (fun j hj => absurd hj (by omega)), rfl⟩
  case round =>
    obtain ⟨i, hi, rfl, HN, rfl⟩ := hrel
    by_cases hlt : i < zs.length
    · have hii : (i : Int) < (zs.length : Int) := by omega
      obtain ⟨g, rfl, hg, hcell⟩ := HC.out (by omega)
      have ci := hcell i hlt
      have Hz0 : Hid (zs.getD i 0 = zs[i]) := Lib.hid (by simp [List.getD, List.getElem?_eq_getElem hlt])
      clear hcell
      generalize zs[i] = z at *
      by_cases hz : k = z
      · have hzb : (k == z) = true := by simpa using hz
        have HZ := Lib.hid hz
        clear hz
        go_wp2
        go_ret
        exact ⟨(i : Int), rfl, .inl ⟨i, rfl, hlt, by rw [Hz0.out, HZ.out], HN.out⟩, rfl⟩
      · have hzb : (k == z) = false := by simpa using hz
        have HZ := Lib.hid hz
        clear hz
        go_wp2
        go_roundw
        case rel => exact ⟨i + 1, by omega, by go_num, Lib.hid (fun j hj => by
          by_cases h : j < i
          · exact HN.out j h
          · obtain rfl : j = i := by omega
            rw [Hz0.out]; exact fun e => HZ.out e.symm), trivial⟩
        case measure => simp [intOf] <;> omega
    · obtain rfl : zs.length = i := by omega
      go_wp2
      go_ret
      exact ⟨-1, rfl, .inr ⟨rfl, HN.out⟩, rfl⟩

def smK (M : Mach) (L S : Nat) : Nat := cntT M L S S
def smC (M : Mach) (L S q : Nat) : Bool := noC (smK M L S) (rB (mnAll M L S S) L (smK M L S)) (numT M L S q)
theorem dp_some {M : Mach} {L S q : Nat} (hg : Good M L S) (hq : q < S) (h : smC M L S q = false) (t : Nat) : 1 ≤ act M L S t q := by
  obtain ⟨r, _, h1, h2⟩ := noC_not _ _ _ h
  rw [← sm_act hg t q hq]
  exact act_some (sm_good hg) t _ (numT_lt M L S q S hq) ⟨r, h1, h2⟩
theorem dp_none {M : Mach} {L S q : Nat} (hg : Good M L S) (hq : q < S) (h : smC M L S q = true) : act M L S 16 q = 0 := by
  have hs := sm_good hg
  have h16 := hs.S16
  rw [← sm_act hg 16 q hq]
  exact act_none hs _ _ (numT_lt M L S q S hq) (Nat.le_refl _) h 16 (Nat.le_trans (rkR_le _ _ _) h16)
theorem kd_zero {M : Mach} {L S q : Nat} (hg : Good M L S) (hq : q < S) : kdN M L S q = 0 ↔ smC M L S q = true :=
  tkK_noC (rB_trans (sm_good hg)) _ _ (numT_lt M L S q S hq)
/-- The least length at which a state is active at no word. -/
def dpV (M : Mach) (L S q : Nat) : Nat := ((List.range 17).find? fun t => decide (act M L S t q = 0)).getD 17
theorem dpV_at {M : Mach} {L S q i : Nat} (hi : i < 17) (h0 : act M L S i q = 0) (hj : ∀ j, j < i → act M L S j q ≠ 0) : dpV M L S q = i := by
  unfold dpV
  have : (List.range 17).find? (fun t => decide (act M L S t q = 0)) = some i := by
    rw [List.find?_range_eq_some]
    exact ⟨by simpa using h0, by simpa using hi, fun j hj' => by simpa using hj j hj'⟩
  rw [this]; rfl
theorem dpV_low {M : Mach} {L S q : Nat} (h : ∃ t, t < 17 ∧ act M L S t q = 0) : dpV M L S q < 17 ∧ act M L S (dpV M L S q) q = 0 ∧ ∀ j, j < dpV M L S q → act M L S j q ≠ 0 := by
  cases hf : (List.range 17).find? (fun t => decide (act M L S t q = 0)) with
  | none =>
    rw [List.find?_eq_none] at hf
    obtain ⟨t, ht, e⟩ := h
    exact absurd e (by simpa using hf t (List.mem_range.2 ht))
  | some i =>
    have e : dpV M L S q = i := by unfold dpV; rw [hf]; rfl
    rw [List.find?_range_eq_some] at hf
    obtain ⟨h1, h2, h3⟩ := hf
    rw [e]
    exact ⟨by simpa using h2, by simpa using h1, fun j hj => by simpa using h3 j hj⟩
def dpC (M : Mach) (q : Int) : Int := if stCd M q = 0 then (if smC M M.L.toNat M.S.toNat q.toNat then 0 else 5) else stCd M q
def dpR (M : Mach) (q : Int) : Int := if dpC M q = 0 then (dpV M M.L.toNat M.S.toNat q.toNat : Int) else 0
theorem dpC_good {M : Mach} {L S qn : Nat} (hg : Good M L S) (h : stCd M qn = 0) : dpC M qn = if smC M L S qn then 0 else 5 := by
  unfold dpC
  rw [if_pos h, hg.hL, hg.hS]
  rfl
theorem dpR_good {M : Mach} {L S qn : Nat} (hg : Good M L S) (h : dpC M qn = 0) : dpR M qn = (dpV M L S qn : Int) := by
  unfold dpR
  rw [if_pos h, hg.hL, hg.hS]
  rfl
theorem ayC_16 (M : Mach) (q : Int) : ayC M q 16 = stCd M q := by
  rw [ayC_st]
  by_cases h : stCd M q = 0
  · rw [if_pos h, if_pos (by omega), h]
  · rw [if_neg h]
theorem ayC_20 (M : Mach) (q : Int) : ayC M q 20 = stCd M q := by
  rw [ayC_st]
  by_cases h : stCd M q = 0
  · rw [if_pos h, if_pos (by omega), h]
  · rw [if_neg h]
theorem ayK_at (M : Mach) (L S q k i : Nat) (hi : i < k) : (ayK M L S q k).getD i 0 = (act M L S i q : Int) := by
  unfold ayK
  rw [List.getD, List.getElem?_map, List.getElem?_range hi]; rfl

set_option maxRecDepth 100000 in
set_option maxHeartbeats 2000000 in
theorem iDepthOfState_calls (M : Mach) (hok : M.Ok) (q : Int) (w : World) :
    Calls Try.prog 23 #[.agg (mc M), .int .i64 q] w fun e w' => e = .returned (.tuple #[.int .i64 (dpR M q), .int .i64 (dpC M q)]) ∧ Below w.heap.size w w' := by
  have F1 : Hid (cut (mc M) 0 98 = mc M) := Lib.hid (cut_all _ _ (mc_size hok)); have F2 : Hid (0 + 98 ≤ (mc M).size) := Lib.hid (by rw [mc_size hok]; omega)
  have hB : Blk (w.alloc (.cells (mc M) 28)) w.heap.size (mc M) 28 := Blk.new w _ _
  have hbw0 : Below w.heap.size w (w.alloc (.cells (mc M) 28)) := by (repeat (first | exact Below.refl _ _ | refine below_drew' ?_ | refine below_drewN' ?_ _ | refine below_alloc' ?_ _ | refine below_set' ?_ (by (try simp); (try omega)) _ | refine below_step ?_ (by assumption)))
  have HA := Lib.hid (fun W => iActivityCounts_calls M hok q 16 W)
  rw [ayC_16] at HA
  by_cases hc : stCd M q = 0
  · rw [hc] at HA
    obtain ⟨L, S, qn, hg, rfl, hq⟩ := stCd_good hok hc
    have hr : ayR M qn 16 = ayK M L S qn 17 := ayR_good (nn := 16) hg (by rw [show ((16 : Nat) : Int) = 16 from rfl, ayC_16]; exact hc)
    rw [hr] at HA
    have Hdc := Lib.hid (dpC_good hg hc)
    have hX := fun v W hv => Index_first v (ayK M L S qn 17) 0 (by rw [ayK_len]; omega) W hv
    cases hs : smC M L S qn
    · have Hc5 : Hid (dpC M qn = 5) := Lib.hid (by rw [Hdc.out, hs]; rfl)
      have Hr5 : Hid (dpR M qn = 0) := Lib.hid (by unfold dpR; rw [Hc5.out]; rfl)
      have HX : Hid (∀ v W, SeesI W v (ayK M L S qn 17) → Calls Try.prog 51 #[v, .int .i64 0] W fun e w' => e = .returned (.int .i64 (-1)) ∧ w' = W) := Lib.hid (fun v W hv => (hX v W hv).mono fun e w' ⟨r, he, hr, hw⟩ => ⟨by
        rcases hr with ⟨i, _, hi, h0, _⟩ | ⟨h, _⟩
        · rw [ayK_len] at hi
          rw [ayK_at M L S qn 17 i hi] at h0
          have := dp_some hg hq hs i
          omega
        · rw [he, h], hw⟩)
      clear hX hs hc hr hg
      generalize ayK M L S qn 17 = kl at *
      go_enter Try.func23, Try.ntmps23
      go_wp2_with (first | (with_reducible show wpList _ _ _ _ _ _; refine wpList_load_blk rfl 28 (.tmp 2) rfl w.heap.size 0 rfl (mc M) _ (hB) 98 F2.out _ Try.underlying28 rfl size_mach ?_; rw [F1.out]) | (go_at_call 14; refine (HA.out _).mono ?_; rintro e w1 ⟨v1, rfl, hO, hb1⟩) | (go_at_call 51; refine (HX.out _ _ hO.sees).mono ?_; rintro e w2 ⟨rfl, rfl⟩))
      go_ret2
      exact ⟨ret_ii2 Hr5.out.symm Hc5.out.symm, below_step hbw0 hb1⟩
    · have hc0 : dpC M qn = 0 := by rw [Hdc.out, hs]; rfl
      have Hc0 := Lib.hid hc0
      have Hrv := Lib.hid (dpR_good hg hc0)
      have HX : Hid (∀ v W, SeesI W v (ayK M L S qn 17) → Calls Try.prog 51 #[v, .int .i64 0] W fun e w' => e = .returned (.int .i64 ((dpV M L S qn : Nat) : Int)) ∧ w' = W) := Lib.hid (fun v W hv => (hX v W hv).mono fun e w' ⟨r, he, hr, hw⟩ => ⟨by
        rcases hr with ⟨i, h1, hi, h0, hj⟩ | ⟨_, h⟩
        · rw [ayK_len] at hi
          rw [ayK_at M L S qn 17 i hi] at h0
          rw [he, h1, dpV_at hi (by omega) (fun j hji => by
            have := hj j hji
            rw [ayK_at M L S qn 17 j (by omega)] at this
            omega)]
        · have := h 16 (by rw [ayK_len]; omega)
          rw [ayK_at M L S qn 17 16 (by omega), dp_none hg hq hs] at this
          exact absurd rfl this, hw⟩)
      clear hX hs hc hr hg hc0
      generalize ayK M L S qn 17 = kl at *
      generalize dpV M L S qn = dv at *
      have hdv0 : ¬ ((dv : Int) < 0) := by omega
      go_enter Try.func23, Try.ntmps23
      go_wp2_with (first | (with_reducible show wpList _ _ _ _ _ _; refine wpList_load_blk rfl 28 (.tmp 2) rfl w.heap.size 0 rfl (mc M) _ (hB) 98 F2.out _ Try.underlying28 rfl size_mach ?_; rw [F1.out]) | (go_at_call 14; refine (HA.out _).mono ?_; rintro e w1 ⟨v1, rfl, hO, hb1⟩) | (go_at_call 51; refine (HX.out _ _ hO.sees).mono ?_; rintro e w2 ⟨rfl, rfl⟩))
      go_ret2
      exact ⟨ret_ii2 Hrv.out.symm Hc0.out.symm, below_step hbw0 hb1⟩
  · have Hc : Hid (dpC M q = stCd M q) := Lib.hid (by unfold dpC; rw [if_neg hc])
    have Hr : Hid (dpR M q = 0) := Lib.hid (by unfold dpR; rw [if_neg (by rw [Hc.out]; exact hc)])
    obtain ⟨c, hcc⟩ : ∃ c, stCd M q = c := ⟨_, rfl⟩
    rw [hcc] at hc HA Hc
    have hcb : (c != 0) = true := by simpa using hc
    clear hc hcc
    go_enter Try.func23, Try.ntmps23
    go_wp2_with (first | (with_reducible show wpList _ _ _ _ _ _; refine wpList_load_blk rfl 28 (.tmp 2) rfl w.heap.size 0 rfl (mc M) _ (hB) 98 F2.out _ Try.underlying28 rfl size_mach ?_; rw [F1.out]) | (go_at_call 14; refine (HA.out _).mono ?_; rintro e w1 ⟨v1, rfl, hO, hb1⟩))
    go_ret2
    exact ⟨ret_ii2 Hr.out.symm Hc.out.symm, below_step hbw0 hb1⟩

set_option maxRecDepth 100000 in
set_option maxHeartbeats 2000000 in
theorem sDepthOfState_calls (M : Mach) (hok : M.Ok) (q : Int) (w : World) :
    Calls Try.prog 22 #[.agg (mc M), .int .i64 q] w fun e w' => e = .returned (.tuple #[.int .i64 (dpR M q), .int .i64 (dpC M q)]) ∧ Below w.heap.size w w' := by
  have F1 : Hid (cut (mc M) 0 98 = mc M) := Lib.hid (cut_all _ _ (mc_size hok)); have F2 : Hid (0 + 98 ≤ (mc M).size) := Lib.hid (by rw [mc_size hok]; omega)
  have hB : Blk (w.alloc (.cells (mc M) 28)) w.heap.size (mc M) 28 := Blk.new w _ _
  have hbw0 : Below w.heap.size w (w.alloc (.cells (mc M) 28)) := by (repeat (first | exact Below.refl _ _ | refine below_drew' ?_ | refine below_drewN' ?_ _ | refine below_alloc' ?_ _ | refine below_set' ?_ (by (try simp); (try omega)) _ | refine below_step ?_ (by assumption)))
  have HS := Lib.hid (fun W => l07State_st M hok q W)
  by_cases hc : stCd M q = 0
  · rw [hc] at HS
    obtain ⟨L, S, qn, hg, rfl, hq⟩ := stCd_good hok hc
    have HK := Lib.hid (fun W => l09Kind_calls M L S hg qn hq W)
    have Hdc := Lib.hid (dpC_good hg hc)
    have hkz := kd_zero hg hq
    cases hs : smC M L S qn
    · have Hc5 : Hid (dpC M qn = 5) := Lib.hid (by rw [Hdc.out, hs]; rfl)
      have Hr5 : Hid (dpR M qn = 0) := Lib.hid (by unfold dpR; rw [Hc5.out]; rfl)
      have hk0 : kN0 (kdN M L S qn) ≠ 0 := by
        have h0 : kdN M L S qn ≠ 0 := fun e => by rw [hkz.1 e] at hs; cases hs
        unfold kN0; rw [if_neg h0]
        split <;> omega
      generalize kN0 (kdN M L S qn) = k0 at *
      generalize kN1 (kdN M L S qn) = k1 at *
      have hkb : (k0 != 0) = true := by simpa using hk0
      clear hkz hk0 hs hc hg
      go_enter Try.func22, Try.ntmps22
      go_wp2_with (first | (with_reducible show wpList _ _ _ _ _ _; refine wpList_load_blk rfl 28 (.tmp 2) rfl w.heap.size 0 rfl (mc M) _ (by first | exact hB1 | exact hB) 98 F2.out _ Try.underlying28 rfl size_mach ?_; rw [F1.out]) | (go_at_call 35; refine (HS.out _).mono ?_; rintro e w1 ⟨rfl, hb1⟩; have hB1 := hB.keptAll hb1) | (go_at_call 50; refine (HK.out _).mono ?_; rintro e w2 ⟨rfl, hb2⟩))
      go_ret2
      exact ⟨ret_ii2 Hr5.out.symm Hc5.out.symm, below_step (below_step hbw0 hb1) hb2⟩
    · have hc0 : dpC M qn = 0 := by rw [Hdc.out, hs]; rfl
      have Hc0 := Lib.hid hc0
      have Hrv := Lib.hid (dpR_good hg hc0)
      have hk0 : kN0 (kdN M L S qn) = 0 := by unfold kN0; rw [if_pos (hkz.2 hs)]
      rw [hk0] at HK
      obtain ⟨d1, d2, d3⟩ := dpV_low (M := M) (L := L) (S := S) (q := qn) ⟨16, by omega, dp_none hg hq hs⟩
      have HA := Lib.hid (fun W => sActivityCounts_calls M hok qn 20 W)
      rw [ayC_20, hc, show ayR M qn 20 = ayK M L S qn 21 from ayR_good (nn := 20) hg (by rw [show ((20 : Nat) : Int) = 20 from rfl, ayC_20]; exact hc)] at HA
      have Hln := Lib.hid (ayK_len M L S qn 21)
      have Hat := Lib.hid (fun i hi => ayK_at M L S qn 21 i hi)
      have Hd2 := Lib.hid d2
      have Hd3 := Lib.hid d3
      generalize kN1 (kdN M L S qn) = k1 at *
      clear hkz hk0 hs hc hc0 hg d2 d3
      generalize dpV M L S qn = dv at *
      generalize ayK M L S qn 21 = kl at *
      go_enter Try.func22, Try.ntmps22
      go_wp2_with (first | (with_reducible show wpList _ _ _ _ _ _; refine wpList_load_blk rfl 28 (.tmp 2) rfl w.heap.size 0 rfl (mc M) _ (by first | exact hB2 | exact hB1 | exact hB) 98 F2.out _ Try.underlying28 rfl size_mach ?_; rw [F1.out]) | (go_at_call 35; refine (HS.out _).mono ?_; rintro e w1 ⟨rfl, hb1⟩; have hB1 := hB.keptAll hb1) | (go_at_call 50; refine (HK.out _).mono ?_; rintro e w2 ⟨rfl, hb2⟩; have hB2 := hB1.keptAll hb2) | (go_at_call 13; refine (HA.out _).mono ?_; rintro e w3 ⟨v3, rfl, hO, hb3⟩; obtain ⟨ov, cv, hv0, _⟩ := hO.view; subst hv0))
      have hbw3 := below_step (below_step (below_step hbw0 hb1) hb2) hb3
      have HO := Lib.hid hO.sees
      clear hO hB hB1 hB2 hb1 hb2 hb3 hbw0
      go_loopw [11] (fun i wr => ∃ t : Nat, t ≤ dv ∧ i = .int .i64 t ∧ wr = w3) (fun i _ => 17 - (intOf i).toNat)
      case atStart => exact ⟨0, by omega, rfl, rfl⟩
      case round =>
        obtain ⟨t, ht, rfl, rfl⟩ := hrel
        have htl : t < kl.length := by rw [Hln.out]; omega
        have hti : (t : Int) < (kl.length : Int) := by omega
        obtain ⟨g, h1, hg1, c1⟩ := HO.out.at t htl
        subst h1
        have hz : kl[t] = (act M L S t qn : Int) := by
          rw [← Hat.out t (by omega)]; simp [List.getD, List.getElem?_eq_getElem htl]
        rw [hz] at c1
        clear hz
        by_cases htd : t < dv
        · have hpos : (0 : Int) < (act M L S t qn : Int) := by have := Hd3.out t htd; omega
          generalize act M L S t qn = a at *
          go_wp2
          go_roundw
          case rel => exact ⟨t + 1, by omega, by go_num, trivial⟩
          case measure => simp [intOf] <;> omega
        · have hte : t = dv := by omega
          have Hrt : Hid (dpR M qn = (t : Int)) := Lib.hid (by rw [Hrv.out, hte])
          have hzero : act M L S t qn = 0 := by rw [hte]; exact Hd2.out
          rw [hzero] at c1
          clear hte hzero
          go_wp2
          go_ret2
          exact ⟨ret_ii2 Hrt.out.symm Hc0.out.symm, hbw3⟩
  · have Hc : Hid (dpC M q = stCd M q) := Lib.hid (by unfold dpC; rw [if_neg hc])
    have Hr : Hid (dpR M q = 0) := Lib.hid (by unfold dpR; rw [if_neg (by rw [Hc.out]; exact hc)])
    obtain ⟨c, hcc⟩ : ∃ c, stCd M q = c := ⟨_, rfl⟩
    rw [hcc] at hc HS Hc
    have hcb : (c != 0) = true := by simpa using hc
    clear hc hcc
    go_enter Try.func22, Try.ntmps22
    go_wp2_with (first | (with_reducible show wpList _ _ _ _ _ _; refine wpList_load_blk rfl 28 (.tmp 2) rfl w.heap.size 0 rfl (mc M) _ (hB) 98 F2.out _ Try.underlying28 rfl size_mach ?_; rw [F1.out]) | (go_at_call 35; refine (HS.out _).mono ?_; rintro e w1 ⟨rfl, hb1⟩))
    go_ret2
    exact ⟨ret_ii2 Hr.out.symm Hc.out.symm, below_step hbw0 hb1⟩
end Go.Proofs.Ytdbdoohcpcjfdaa
