/- 'KindOfState': plain data; program and model. -/
import Derived.Test.YtdbdoohcpcjfdaaKiN
import Derived.Test.YtdbdoohcpcjfdaaStL
import Derived.Test.YtdbdoohcpcjfdaaNorW
namespace Go.Proofs.Ytdbdoohcpcjfdaa
open Go.RowKit

def knR (M : Mach) (q : Int) : List Int := if stCd M q = 0 then [kN0 (kdN M M.L.toNat M.S.toNat q.toNat), kN1 (kdN M M.L.toNat M.S.toNat q.toNat)] else []
theorem knR_good {M : Mach} {L S qn : Nat} (hg : Good M L S) (h : stCd M qn = 0) : knR M qn = [kN0 (kdN M L S qn), kN1 (kdN M L S qn)] := by
  unfold knR
  rw [if_pos h, hg.hL, hg.hS]
  rfl
theorem knR_len (M : Mach) (q : Int) : (knR M q).length ≤ 1048576 := by
  unfold knR; split <;> simp
theorem sm_stay {M : Mach} {L S : Nat} (hg : Good M L S) (k : Nat) (hk : k < cntT M L S S) : stayUp (mnAll M L S S) k L = trivB (mnAll M L S S) L (cntT M L S S) k := by
  obtain ⟨p, hp, rfl⟩ := numT_onto M L S S k hk
  rw [stay_triv hg p hp, sm_triv hg p hp]
theorem ret_lk {v : Value} {m m' : Int} (h' : m = m') : Ending.returned (.tuple #[v, .int .i64 m]) = Ending.returned (.tuple #[v, .int .i64 m']) := by rw [h']
theorem index_k16 (f : Nat → Nat) (k : Nat) (hk : k < 16) (W : World) : (Instr.index 69 (.agg (kC f)) (.int .i64 (k : Int))).run Try.prog W = .ok (kV (f k)) W := by
  have h : Try.prog.underlying 69 = some (.array 16 68) := Try.underlying69
  have e1 := kC_at f k hk
  simp [Instr.index, run_underlying h, asIntOf, hk, go_sem]
  rw [e1]
  simp

set_option maxRecDepth 100000 in
set_option maxHeartbeats 2000000 in
theorem sKindOfState_calls (M : Mach) (hok : M.Ok) (q : Int) (w : World) :
    Calls Try.prog 24 #[.agg (mc M), .int .i64 q] w fun e w' => ∃ v, e = .returned (.tuple #[v, .int .i64 (stCd M q)]) ∧ OwnI w' w.heap.size v (knR M q) ∧ Below w.heap.size w w' := by
  have F1 : Hid (cut (mc M) 0 98 = mc M) := Lib.hid (cut_all _ _ (mc_size hok)); have F2 : Hid (0 + 98 ≤ (mc M).size) := Lib.hid (by rw [mc_size hok]; omega)
  have hB : Blk (w.alloc (.cells (mc M) 28)) w.heap.size (mc M) 28 := Blk.new w _ _
  have hbw0 : Below w.heap.size w (w.alloc (.cells (mc M) 28)) := by (repeat (first | exact Below.refl _ _ | refine below_drew' ?_ | refine below_drewN' ?_ _ | refine below_alloc' ?_ _ | refine below_set' ?_ (by (try simp); (try omega)) _ | refine below_step ?_ (by assumption)))
  have HS := Lib.hid (fun W => l07State_st M hok q W)
  by_cases hc : stCd M q = 0
  · obtain ⟨L, S, qn, hg, rfl, hq⟩ := stCd_good hok hc
    have HK := Lib.hid (fun W => l09Kind_calls M L S hg qn hq W)
    have Hr := Lib.hid (knR_good hg hc)
    rw [hc] at HS
    rw [hc, Hr.out]
    clear hc hg
    generalize kN0 (kdN M L S qn) = k0 at *
    generalize kN1 (kdN M L S qn) = k1 at *
    go_enter Try.func24, Try.ntmps24
    go_wp2_with (first | (with_reducible show wpList _ _ _ _ _ _; refine wpList_load_blk rfl 28 (.tmp 2) rfl w.heap.size 0 rfl (mc M) _ (by first | exact hB1 | exact hB) 98 F2.out _ Try.underlying28 rfl size_mach ?_; rw [F1.out]) | (go_at_call 35; refine (HS.out _).mono ?_; rintro e w1 ⟨rfl, hb1⟩; have hB1 := hB.keptAll hb1) | (go_at_call 50; refine (HK.out _).mono ?_; rintro e w2 ⟨rfl, hb2⟩))
    have hbw2 := below_step (below_step hbw0 hb1) hb2
    have hA : Blk (w2.alloc (.cells #[.int .i64 k0, .int .i64 k1] 2)) w2.heap.size (ints [k0, k1]) 2 := Blk.new _ _ _
    go_ret2
    exact ⟨_, rfl, OwnI.made rfl (by unfold maxLen; omega) hbw2.size hA, below_alloc' hbw2 _⟩
  · have Hr : Hid (knR M q = []) := Lib.hid (by unfold knR; rw [if_neg hc])
    obtain ⟨c, hcc⟩ : ∃ c, stCd M q = c := ⟨_, rfl⟩
    rw [hcc] at hc HS ⊢
    have hcb : (c != 0) = true := by simpa using hc
    rw [Hr.out]
    clear hc hcc
    go_enter Try.func24, Try.ntmps24
    go_wp2_with (first | (with_reducible show wpList _ _ _ _ _ _; refine wpList_load_blk rfl 28 (.tmp 2) rfl w.heap.size 0 rfl (mc M) _ (hB) 98 F2.out _ Try.underlying28 rfl size_mach ?_; rw [F1.out]) | (go_at_call 35; refine (HS.out _).mono ?_; rintro e w1 ⟨rfl, hb1⟩))
    go_ret2
    exact ⟨_, rfl, OwnI.nil _ _, below_step hbw0 hb1⟩

set_option maxRecDepth 100000 in
set_option maxHeartbeats 2000000 in
theorem iKindOfState_calls (M : Mach) (hok : M.Ok) (q : Int) (w : World) :
    Calls Try.prog 25 #[.agg (mc M), .int .i64 q] w fun e w' => ∃ v, e = .returned (.tuple #[v, .int .i64 (stCd M q)]) ∧ OwnI w' w.heap.size v (knR M q) ∧ Below w.heap.size w w' := by
  have F1 : Hid (cut (mc M) 0 98 = mc M) := Lib.hid (cut_all _ _ (mc_size hok)); have F2 : Hid (0 + 98 ≤ (mc M).size) := Lib.hid (by rw [mc_size hok]; omega)
  have hB0 : Blk (w.alloc (.cells (mc M) 28)) w.heap.size (mc M) 28 := Blk.new w _ _
  have hbw0 : Below w.heap.size w (w.alloc (.cells (mc M) 28)) := by (repeat (first | exact Below.refl _ _ | refine below_drew' ?_ | refine below_drewN' ?_ _ | refine below_alloc' ?_ _ | refine below_set' ?_ (by (try simp); (try omega)) _ | refine below_step ?_ (by assumption)))
  have hz := zero_mach
  have HzS : Hid ((mc zeroM).size = 98) := Lib.hid (mc_size zeroM_ok)
  have hf1 := fun W => iMinimalMachine_calls M hok W
  cases hm : isMach M
  · have hc : stCd M q = 1 := by unfold stCd; rw [if_neg (by rw [hm]; simp)]
    have Hr : Hid (knR M q = []) := Lib.hid (by unfold knR; rw [if_neg (by rw [hc]; omega)])
    rw [show minC M = 1 from by simp [minC, hm], show minR M = zeroM from by simp [minR, hm]] at hf1
    have HF := Lib.hid hf1
    have Hms := HzS
    have Hmo : Hid (over (mc zeroM) 0 (mc zeroM) = mc zeroM) := Lib.hid (over_all _ _ rfl)
    rw [hc, Hr.out]
    clear hf1 hm hc
    go_enter Try.func25, Try.ntmps25
    go_wp2_with (first | (with_reducible show wpList _ _ _ _ _ _; refine wpList_load_blk rfl 28 (.tmp 2) rfl w.heap.size 0 rfl (mc M) _ (hB0) 98 F2.out _ Try.underlying28 rfl size_mach ?_; rw [F1.out]) | (go_at_call 52; refine (HF.out _).mono ?_; rintro e w1 ⟨v1, rfl, hv1, hb1⟩; have hX1 : Blk (w1.alloc (.cells (mc zeroM) 28)) w1.heap.size (mc zeroM) 28 := Blk.new _ _ _; have hbw1 := below_alloc' (below_step hbw0 hb1) (.cells (mc zeroM) 28); have hs1 := (below_step hbw0 hb1).size) | (with_reducible show wpList _ _ _ _ _ _; refine wpList_store_row rfl 28 _ _ rfl w1.heap.size 0 (mc zeroM) rfl rfl _ _ hX1 (by rw [HzS.out]; omega) (by rw [HzS.out]; exact size_mach) (mc_one _) _ Hmo.out ?_; intro w3 hs3))
    go_ret2
    exact ⟨_, rfl, OwnI.nil _ _, hs3.below _ _ (by omega) hbw1⟩
  · obtain ⟨L, S, hg⟩ := Good.of hok hm
    have hsg := sm_good hg
    have hS16 := hg.S16
    have hS1 := hg.S1
    have Hmok := Lib.hid hsg.ok
    have Hms := Lib.hid (mc_size hsg.ok)
    have Hmo : Hid (over (mc zeroM) 0 (mc (mnAll M L S S)) = mc (mnAll M L S S)) := Lib.hid (over_all _ _ (by rw [Hms.out, HzS.out]))
    have Hmc : Hid (cut (mc (mnAll M L S S)) 0 98 = mc (mnAll M L S S)) := Lib.hid (cut_all _ _ Hms.out)
    have HQ := Lib.hid (fun W => isState_calls M q W)
    rw [show minC M = 0 from by simp [minC, hm], show minR M = mnAll M L S S from by simp [minR, hm, hg.hL, hg.hS], show minN M = numsT M L S S from by simp [minN, hm, hg.hL, hg.hS]] at hf1
    have HF := Lib.hid hf1
    by_cases hq : 0 ≤ q ∧ q < M.S
    · have hc : stCd M q = 0 := by unfold stCd stIn; rw [if_pos hm, if_pos (decide_eq_true hq)]
      rw [show decide (0 ≤ q ∧ q < M.S) = true by simpa using hq] at HQ
      obtain ⟨qn, rfl⟩ := Int.eq_ofNat_of_zero_le hq.1
      have hqS : qn < S := by have := hg.hS; omega
      have Hr := Lib.hid (knR_good hg hc)
      have HKs := Lib.hid (fun W => kindsOf_calls (mnAll M L S S) L (cntT M L S S) hsg (sm_stay hg) W)
      have hnq := numT_lt M L S qn S hqS
      have hK16 := hsg.S16
      have Hkd : Hid (kdN M L S qn = tkK (cntT M L S S) (rB (mnAll M L S S) L (cntT M L S S)) (dbV (mnAll M L S S) L (cntT M L S S) (rB (mnAll M L S S) L (cntT M L S S))) (numT M L S qn)) := Lib.hid rfl
      have Hcur : Hid (∀ (cur : Array Value), cur.toList.take (S * 1) = (numsT M L S S).map (Value.int .i64) → cur[qn]? = some (.int .i64 (numT M L S qn : Int))) := Lib.hid (fun cur htake => by
        have := congrArg (fun l => l[qn]?) htake
        simp only [List.getElem?_take, Nat.mul_one] at this
        rw [if_pos hqS] at this
        rw [← Array.getElem?_toList, this]
        simp [numsT, hqS])
      rw [hc, Hr.out]
      clear hf1 hm hc hq hsg hg
      generalize numT M L S qn = nq at *
      generalize mnAll M L S S = sm at *
      generalize kdN M L S qn = kd at *
      have hqi : (qn : Int) < (S : Int) := by omega
      go_enter Try.func25, Try.ntmps25
      go_wp2_with (first | (with_reducible show wpList _ _ _ _ _ _; refine wpList_load_blk rfl 28 (.tmp 2) rfl w.heap.size 0 rfl (mc M) _ (by first | exact hB3 | exact hB0) 98 F2.out _ Try.underlying28 rfl size_mach ?_; rw [F1.out]) | (go_at_call 52; refine (HF.out _).mono ?_; rintro e w1 ⟨v1, rfl, hv1, hb1⟩; have hv2 := hv1.2; rw [numsT_len] at hv2; rcases hv2 with ⟨_, h0⟩ | ⟨g, cap, cur, rfl, hbg, hV1, hnn, hcap, hsz, htake⟩; omega; have hX1 : Blk (w1.alloc (.cells (mc zeroM) 28)) w1.heap.size (mc zeroM) 28 := Blk.new _ _ _; have hbw1 := below_alloc' (below_step hbw0 hb1) (.cells (mc zeroM) 28); have hs1 := (below_step hbw0 hb1).size; have hBa := (hB0.keptAll hb1).alloc (.cells (mc zeroM) 28); have hlB := (hB0.keptAll hb1).lt; have hltV : g < w1.heap.size := Blk.lt hV1; have hVa := Blk.alloc hV1 (.cells (mc zeroM) 28)) | (with_reducible show wpList _ _ _ _ _ _; refine wpList_store_row rfl 28 _ _ rfl w1.heap.size 0 (mc sm) rfl rfl _ _ hX1 (by rw [Hms.out, HzS.out]; omega) (by rw [Hms.out]; exact size_mach) (mc_one _) _ Hmo.out ?_; intro w3 hs3; have hB3 := hs3.keep (by omega) hBa; have hX3 := hs3.blk; have hV3 := hs3.keep (by omega) hVa; have hbw3 := hs3.below _ _ (by omega) hbw1) | (go_at_call 38; refine (HQ.out _).mono ?_; rintro e w4 ⟨rfl, hb4⟩; have hX4 := (hX3.keptAll hb4).drew; have hV4 := (hV3.keptAll hb4).drew; have hbw4 := below_drew' (below_step hbw3 hb4)))
      have HCq := Lib.hid (Hcur.out cur htake)
      clear hX1 hbw1 hs3 hB3 hX3 hV3 hbw3 hb1 hb4 hBa hVa hltV hV1 hv1 hz htake hsz hcap hnn hbg
      refine wp_region_held_drew (S := fun W => Blk W w1.heap.size (mc sm) 28 ∧ Blk W g cur 2) (by kernel_rfl) ⟨hX4, hV4⟩ (fun hS0 => ?_)
      (refine hK_load 0 rfl (by kernel_rfl) (by kernel_rfl) (by kernel_rfl) 28 _ rfl w1.heap.size 0 rfl (mc sm) _ (fun W hW => hW.1) 98 (by rw [Hms.out]; omega) _ Try.underlying28 rfl size_mach _ Hmc.out (fun _ _ _ h => h) rfl hS0 ?_; (intro K hK; go_simp; refine hK _ ?_; clear hK K))
      (refine hK_take 2 (.slice (some ⟨g, 0, none⟩) S cap) rfl (by kernel_rfl) (by kernel_rfl) (by kernel_rfl) (fun _ _ _ h => h) rfl (fun W _ => by go_simp) hS0 ?_; (intro K hK; go_simp; refine hK _ ?_; clear hK K))
      (refine hK_take 3 (.int .i64 (qn : Int)) rfl (by kernel_rfl) (by kernel_rfl) (by kernel_rfl) (fun _ _ _ h => h) rfl (fun W _ => by go_simp) hS0 ?_; (intro K hK; go_simp; refine hK _ ?_; clear hK K))
      (refine hK_take 4 (.pointer (some ⟨g, qn, none⟩)) rfl (by kernel_rfl) (by kernel_rfl) (by kernel_rfl) (fun _ _ _ h => h) rfl (fun W _ => by go_simp) hS0 ?_; (intro K hK; go_simp; refine hK _ ?_; clear hK K))
      (refine hK_take 5 (.int .i64 (nq : Int)) rfl (by kernel_rfl) (by kernel_rfl) (by kernel_rfl) (fun _ _ _ h => h) rfl (fun W hW => by have c1 := Blk.cell hW.2 qn; rw [HCq.out] at c1; clear hW; go_simp) hS0 ?_; (intro K hK; go_simp; refine hK _ ?_; clear hK K))
      (refine wpAnyH_ready (rs := [1]) (by kernel_rfl) (by simp) ?_; refine AllReadyH.cons rfl (fun K hK => ?_) AllReadyH.nil); go_simp; refine (HKs.out _).mono ?_; rintro e w5 ⟨⟨f, rfl, hfk, hfE⟩, hb5⟩; have hS5 : Blk w5 w1.heap.size (mc sm) 28 ∧ Blk w5 g cur 2 := ⟨hS0.1.keptAll hb5, hS0.2.keptAll hb5⟩; have hbw5 := below_step hbw4 hb5
      (go_simp; refine hK.out _ _ (hS5) (fun hS1 => ?_); clear hK K)
      have hfq := hfk nq hnq
      rw [← Hkd.out] at hfq
      have hix := index_k16 f nq (by omega)
      obtain ⟨t1, r1, f1, ek, mk, cf, hn⟩ := num_of (f nq)
      rw [hfq] at hn
      rw [ek] at hix
      have HN := Lib.hid hn
      clear hn ek hfk hfE hfq
      (refine hK_take 6 (.iface t1 r1) rfl (by kernel_rfl) (by kernel_rfl) (by kernel_rfl) (fun _ _ _ h => h) rfl (fun W _ => by go_simp) hS1 ?_; (intro K hK; go_simp; refine hK _ ?_; clear hK K))
      (refine wpAnyH_ready (rs := [7]) (by kernel_rfl) (by simp) ?_; refine AllReadyH.cons rfl (fun K hK => ?_) AllReadyH.nil); go_simp; refine (HN.out _).mono ?_; rintro e w6 ⟨v6, rfl, hO6, hb6⟩; have hS6 : Blk w6 w1.heap.size (mc sm) 28 ∧ Blk w6 g cur 2 := ⟨hS5.1.keptAll hb6, hS5.2.keptAll hb6⟩; have hbw6 := below_step hbw5 hb6
      (go_simp; refine hK.out _ _ (hS6) (fun hS2 => ?_); clear hK K)
      (refine hK_take 8 (v6) rfl (by kernel_rfl) (by kernel_rfl) (by kernel_rfl) (fun _ _ _ h => h) rfl (fun W _ => by go_simp) hS2 ?_; (intro K hK; go_simp; refine hK _ ?_; clear hK K))
      (refine hK_take 9 (.int .i64 0) rfl (by kernel_rfl) (by kernel_rfl) (by kernel_rfl) (fun _ _ _ h => h) rfl (fun W _ => by go_simp) hS2 ?_; (intro K hK; go_simp; refine hK _ ?_; clear hK K))
      refine wpAnyH_done (by kernel_rfl) ?_ _
      go_wp2
      go_ret2
      exact ⟨_, rfl, hO6.base_le' (by have := hbw5.size; omega), hbw6⟩
    · have hc : stCd M q = 2 := by unfold stCd stIn; rw [if_pos hm, if_neg (by simpa using hq)]
      have Hr : Hid (knR M q = []) := Lib.hid (by unfold knR; rw [if_neg (by rw [hc]; omega)])
      rw [show decide (0 ≤ q ∧ q < M.S) = false by simpa using hq] at HQ
      rw [hc, Hr.out]
      clear hf1 hm hc hq hsg hg
      generalize mnAll M L S S = sm at *
      go_enter Try.func25, Try.ntmps25
      go_wp2_with (first | (with_reducible show wpList _ _ _ _ _ _; refine wpList_load_blk rfl 28 (.tmp 2) rfl w.heap.size 0 rfl (mc M) _ (by first | exact hB3 | exact hB0) 98 F2.out _ Try.underlying28 rfl size_mach ?_; rw [F1.out]) | (go_at_call 52; refine (HF.out _).mono ?_; rintro e w1 ⟨v1, rfl, hv1, hb1⟩; have hX1 : Blk (w1.alloc (.cells (mc zeroM) 28)) w1.heap.size (mc zeroM) 28 := Blk.new _ _ _; have hbw1 := below_alloc' (below_step hbw0 hb1) (.cells (mc zeroM) 28); have hs1 := (below_step hbw0 hb1).size; have hBa := (hB0.keptAll hb1).alloc (.cells (mc zeroM) 28); have hlB := (hB0.keptAll hb1).lt) | (with_reducible show wpList _ _ _ _ _ _; refine wpList_store_row rfl 28 _ _ rfl w1.heap.size 0 (mc sm) rfl rfl _ _ hX1 (by rw [Hms.out, HzS.out]; omega) (by rw [Hms.out]; exact size_mach) (mc_one _) _ Hmo.out ?_; intro w3 hs3; have hB3 := hs3.keep (by omega) hBa; have hbw3 := hs3.below _ _ (by omega) hbw1) | (go_at_call 38; refine (HQ.out _).mono ?_; rintro e w4 ⟨rfl, hb4⟩))
      go_ret2
      exact ⟨_, rfl, OwnI.nil _ _, below_step hbw3 hb4⟩
end Go.Proofs.Ytdbdoohcpcjfdaa
