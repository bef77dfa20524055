/- 'refine': sets of rows, or the search is given up. · 'times'. Written by gen/gentim.py. · 'productOf': factors one behind the other. -/
import Derived.Test.YtkkooafjpancoaaDvO
import Derived.Test.YtkkooafjpancoaaBhd
import Derived.WalkMore
import Derived.ScopeJumps
import Derived.Test.YtkkooafjpancoaaPqL
import Derived.Test.YtkkooafjpancoaaMaI
import Derived.Test.YtkkooafjpancoaaTvI
namespace Go.Proofs.Ytkkooafjpancoaa
open Go.RowKit

/-- The walk up to the loop. -/
def refOk (A : Aut) (L N : Nat) (w w' : World) (e : Ending) : Prop :=
  if cntB (aRep A L 256) N ≤ 16 then (∃ v t, e = .returned v ∧ AStill A L N t ∧ OwnN w' w.heap.size v ((List.range N).map (aNum A L t))) else e = gaveUp 3

set_option maxRecDepth 100000 in
set_option maxHeartbeats 4000000 in
theorem refine_calls (A : Aut) (L N : Nat) (hL : L ≤ 3) (h0 : 0 < N) (hN : N ≤ 256) (hA : A.In L N) (hb : A.Bytes L N) (rv : Value) (w : World) (hr : SeesR w rv A L N) :
    Calls Try.prog 77 #[rv] w fun e w' => refOk A L N w w' e ∧ Below w.heap.size w w' := by
  obtain ⟨gr, capr, curr, rfl, hBr, hcr⟩ := id hr
  have Hr := Lib.hid hr
  have hmk := mk_bytes N (by omega)
  have hF1 : Blk (w.alloc (.cells (nats (List.replicate N 0)) 5)) w.heap.size (nats (List.replicate N 0)) 5 := Blk.new w _ _
  have hbel0 : Below w.heap.size w (w.alloc (.cells (nats (List.replicate N 0)) 5)) := by (repeat (first | exact Below.refl _ _ | refine below_drew' ?_ | refine below_drewN' ?_ _ | refine below_alloc' ?_ _ | refine below_set' ?_ (by (try simp); (try omega)) _ | refine below_step ?_ (by assumption)))
  have hO1 : OwnN (w.alloc (.cells (nats (List.replicate N 0)) 5)) w.heap.size (.slice (some ⟨w.heap.size, 0, none⟩) N N) ((List.range N).map (aNum A L 0)) := by
    have h1 := OwnN.made (base := w.heap.size) (ks := List.replicate N 0) (Nat.le_refl _) hF1 rfl (by simp; omega)
    have h2 : (List.range N).map (aNum A L 0) = List.replicate N 0 := by
      rw [show (aNum A L 0) = fun _ => 0 from funext fun q => aNum_zero A L q, List.map_const', List.length_range]
    rw [h2]
    simpa using h1
  have Hc := Lib.hid (cnt_zero A L N h0)
  clear hr hBr hcr hF1
  have hst : AStill A L N 256 := aStill_from hA 256 hN
  have Hst := Lib.hid hst
  have Hin := Lib.hid hA
  have Hby := Lib.hid hb
  clear hst hA hb
  go_enter Try.func77, Try.ntmps77
  go_wp2
  refine wp_scope_jumps 0 (fun a' w' => ∃ (t : Nat) (v u1 u5 u6 u7 u8 u9 u10 u11 u12 u13 u14 u15 u16 u17 u18 u19 u20 u21 u22 u23 u24 : Value), a' = { tmps := #[.slice (some ⟨gr, 0, none⟩) N capr, u1, .slice none 0 0, v, .int .i64 (cntB (aRep A L t) N : Nat), u5, u6, u7, u8, u9, u10, u11, u12, u13, u14, u15, u16, u17, u18, u19, u20, u21, u22, u23, u24], defers := [] } ∧ OwnN w' w.heap.size v ((List.range N).map (aNum A L t)) ∧ Below w.heap.size w w' ∧ cntB (aRep A L t) N ≤ 16) (fun a' _ => 17 - (intOf (a'.tmps.getD 4 undef)).toNat) rfl ?_ ?_
  · go_wp2
    go_step3
    obtain ⟨w', hw'⟩ : ∃ w', w.alloc (.cells (nats (List.replicate N 0)) 5) = w' := ⟨_, rfl⟩
    rw [hw'] at hO1 hbel0 ⊢
    clear hw'
    obtain ⟨v, hv⟩ : ∃ v, Value.slice (some ⟨w.heap.size, 0, none⟩) N N = v := ⟨_, rfl⟩
    rw [hv] at hO1 ⊢
    clear hv
    have hO := hO1; have hbw := hbel0; clear hO1 hbel0
    have hle : cntB (aRep A L 0) N ≤ 16 := by rw [Hc.out]; omega
    have hcm := cnt_most Hin.out Hst.out (0 + 1)
    have hDv := divideOnce_calls A L N 0 hL h0 hN Hin.out Hby.out (.slice (some ⟨gr, 0, none⟩) N capr) v _ (Hr.out.below hbw) (hO.sees h0)
    have HDv := Lib.hid hDv
    have Hs0 : Hid (cntB (aRep A L (0 + 1)) N ≤ cntB (aRep A L 0) N → AStill A L N 0) := Lib.hid still_of_cnt
    have Hs1 : Hid (AStill A L N 0 → cntB (aRep A L 0) N = cntB (aRep A L 256) N) := Lib.hid (fun h => still_cnt Hin.out h Hst.out)
    clear hDv
    generalize hc1 : cntB (aRep A L (0 + 1)) N = c1 at *
    have Hc1 := Lib.hid hc1; clear hc1
    generalize hc0 : cntB (aRep A L 0) N = c0 at *
    have Hc0 := Lib.hid hc0; clear hc0
    obtain rfl : c0 = 1 := Hc.out
    by_cases h16 : 16 < c1
    · have h16i : (16 : Int) < (c1 : Int) := by omega
      have H16 : Hid (¬ cntB (aRep A L 256) N ≤ 16) := Lib.hid (by omega)
      clear hcm
      go_wp2_with (first | (go_at_call 83; refine HDv.out.mono ?_; rintro e w1 ⟨v1, rfl, hO1, hb1⟩; have hbw1 := below_step hbw hb1) | (go_at_call 84; refine (goOn_calls 3 (by decide) _).mono ?_; rintro e w2 ⟨he, rfl⟩; unfold gaveUp at he; subst he))
      exact ⟨rfl, by unfold refOk; rw [if_neg H16.out]; rfl, hbw1⟩
    · clear hcm
      have h16i : ¬ (16 : Int) < (c1 : Int) := by omega
      by_cases hgt : 1 < c1
      · have hgti : (1 : Int) < (c1 : Int) := by omega
        go_wp2_with (go_at_call 83; refine HDv.out.mono ?_; rintro e w1 ⟨v1, rfl, hO1, hb1⟩; have hbw1 := below_step hbw hb1; have hO1' := hO1.base_le hbw.size)
        go_step3
        refine ⟨rfl, 0 + 1, v1, undef, _, _, _, _, _, _, _, _, _, _, _, _, _, _, _, _, _, _, _, _, by rw [Hc1.out], hO1', hbw1, by rw [Hc1.out]; omega⟩
      · have hgti : ¬ (1 : Int) < (c1 : Int) := by omega
        have hst := Hs0.out (by omega)
        have Hle : Hid (cntB (aRep A L 256) N ≤ 16) := Lib.hid (by rw [← Hs1.out hst]; exact hle)
        have Hst2 := Lib.hid hst; clear hst
        go_wp2_with (go_at_call 83; refine HDv.out.mono ?_; rintro e w1 ⟨v1, rfl, hO1, hb1⟩; have hbw1 := below_step hbw hb1; have hO1' := hO.below hb1)
        simp only [Exit.jump]
        go_ret
        exact ⟨by unfold refOk; rw [if_pos Hle.out]; exact ⟨_, _, rfl, Hst2.out, hO1'⟩, hbw1⟩
  · rintro a' w' ⟨t, v, u1, u5, u6, u7, u8, u9, u10, u11, u12, u13, u14, u15, u16, u17, u18, u19, u20, u21, u22, u23, u24, rfl, hO, hbw, hle⟩
    have hcm := cnt_most Hin.out Hst.out (t + 1)
    have hDv := divideOnce_calls A L N t hL h0 hN Hin.out Hby.out (.slice (some ⟨gr, 0, none⟩) N capr) v _ (Hr.out.below hbw) (hO.sees h0)
    have HDv := Lib.hid hDv
    have Hs0 : Hid (cntB (aRep A L (t + 1)) N ≤ cntB (aRep A L t) N → AStill A L N t) := Lib.hid still_of_cnt
    have Hs1 : Hid (AStill A L N t → cntB (aRep A L t) N = cntB (aRep A L 256) N) := Lib.hid (fun h => still_cnt Hin.out h Hst.out)
    clear hDv
    generalize hc1 : cntB (aRep A L (t + 1)) N = c1 at *
    have Hc1 := Lib.hid hc1; clear hc1
    generalize hc0 : cntB (aRep A L t) N = c0 at *
    have Hc0 := Lib.hid hc0; clear hc0
    by_cases h16 : 16 < c1
    · have h16i : (16 : Int) < (c1 : Int) := by omega
      have H16 : Hid (¬ cntB (aRep A L 256) N ≤ 16) := Lib.hid (by omega)
      clear hcm
      go_wp2_with (first | (go_at_call 83; refine HDv.out.mono ?_; rintro e w1 ⟨v1, rfl, hO1, hb1⟩; have hbw1 := below_step hbw hb1) | (go_at_call 84; refine (goOn_calls 3 (by decide) _).mono ?_; rintro e w2 ⟨he, rfl⟩; unfold gaveUp at he; subst he))
      exact ⟨rfl, by unfold refOk; rw [if_neg H16.out]; rfl, hbw1⟩
    · clear hcm
      have h16i : ¬ (16 : Int) < (c1 : Int) := by omega
      by_cases hgt : c0 < c1
      · have hgti : (c0 : Int) < (c1 : Int) := by omega
        go_wp2_with (go_at_call 83; refine HDv.out.mono ?_; rintro e w1 ⟨v1, rfl, hO1, hb1⟩; have hbw1 := below_step hbw hb1; have hO1' := hO1.base_le hbw.size)
        go_step3
        refine ⟨rfl, ⟨t + 1, v1, u1, _, _, _, _, _, _, _, _, _, _, _, _, _, _, _, _, _, _, _, _, by rw [Hc1.out], hO1', hbw1, by rw [Hc1.out]; omega⟩, ?_⟩
        simp [intOf]
        omega
      · have hgti : ¬ (c0 : Int) < (c1 : Int) := by omega
        have hst := Hs0.out (by omega)
        have Hle : Hid (cntB (aRep A L 256) N ≤ 16) := Lib.hid (by rw [← Hs1.out hst]; exact hle)
        have Hst2 := Lib.hid hst; clear hst
        go_wp2_with (go_at_call 83; refine HDv.out.mono ?_; rintro e w1 ⟨v1, rfl, hO1, hb1⟩; have hbw1 := below_step hbw hb1; have hO1' := hO.below hb1)
        simp only [Exit.jump]
        go_ret
        exact ⟨by unfold refOk; rw [if_pos Hle.out]; exact ⟨_, _, rfl, Hst2.out, hO1'⟩, hbw1⟩
end Go.Proofs.Ytkkooafjpancoaa

namespace Go.Proofs.Ytkkooafjpancoaa
open Go.RowKit
open Go.Maps

theorem ptA_bytes {M J : Mach} {L S T c : Nat} (hM : Good M L S) (hJ : Good J L T) (hc : c < S * T) : (ptA (prA M J T) L c).Bytes L (ptQ (prA M J T) L c).length := fun i x hi hx => by
  rw [(ptA_hom (prA_in hM hJ) (few_prod hM.S16 hJ.S16) hc i x hi hx).1]
  exact prA_bd hJ.ok _ _
/-- The machine of the numbers of sets that nothing divides any more. -/
theorem times_mach {M J : Mach} {L S T c t : Nat} (hM : Good M L S) (hJ : Good J L T) (hc : c < S * T) (h16 : (prodQ M J L T c).length ≤ 16) (ht : AStill (ptA (prA M J T) L c) L (ptQ (prA M J T) L c).length t) :
    maR (ptA (prA M J T) L c) (aNum (ptA (prA M J T) L c) L t) L 0 = prodM M J L T c ∧ maC (ptA (prA M J T) L c) (aNum (ptA (prA M J T) L c) L t) L 0 = 0 := by
  have hB := prA_in hM hJ
  have hN := few_prod hM.S16 hJ.S16
  have hA := ptA_in hB hN hc
  have hP : (ptQ (prA M J T) L c).length ≤ 256 := ptQ_few hB hN hc
  have h0 := ptQ_pos (prA M J T) L c
  have hl : (bAll (fE (aNum (ptA (prA M J T) L c) L t)) (ptA (prA M J T) L c).n L 0 256).length ≤ 16 := by
    have e1 : (bAll (numE (ptA (prA M J T) L c) L t) (ptA (prA M J T) L c).n L 0 256).length = (setQ (ptA (prA M J T) L c) L 0).length := (numQ_pair hA hP ht h0 256).len
    have e2 := pt_len hB hN hc
    have e3 : (setQ (prA M J T) L c).length ≤ 16 := h16
    show (bAll (numE (ptA (prA M J T) L c) L t) (ptA (prA M J T) L c).n L 0 256).length ≤ 16
    omega
  unfold maR maC
  rw [if_pos hl, if_pos hl]
  exact ⟨(numQ_mach hA hP ht h0).trans (pt_mach hB hN hc), rfl⟩


set_option maxRecDepth 100000 in
set_option maxHeartbeats 3000000 in
theorem times_ok (M J : Mach) (L S T : Nat) (hM : Good M L S) (hJ : Good J L T) (bm bk p r : Nat) (hp : p < S) (hr : r < T) (h16 : (prodQ M J L T (p * T + r)).length ≤ 16) (w : World) (hBm : Blk w bm (mc M) 28) (hBk : Blk w bk (mc J) 28) :
    Calls Try.prog 50 #[.agg #[.pointer (some ⟨bm, 0, none⟩), .int .i64 (p : Int)], .agg #[.pointer (some ⟨bk, 0, none⟩), .int .i64 (r : Int)]] w fun e w' => e = .returned (.agg (mc (prodM M J L T (p * T + r)))) ∧ Below w.heap.size w w' := by
  have hbm := hBm.lt
  have hcN : p * T + r < S * T := by
    calc p * T + r < p * T + T := by omega
      _ = (p + 1) * T := by rw [Nat.succ_mul]
      _ ≤ S * T := Nat.mul_le_mul_right T hp
  have hB := prA_in hM hJ
  have hN := few_prod hM.S16 hJ.S16
  have hcnt : cntB (aRep (ptA (prA M J T) L (p * T + r)) L 256) (ptQ (prA M J T) L (p * T + r)).length = (prodQ M J L T (p * T + r)).length := pt_cnt hB hN hcN
  have hpos := ptQ_pos (prA M J T) L (p * T + r)
  have hfew := ptQ_few hB hN hcN
  have hIn := ptA_in hB hN hcN
  have hBy := ptA_bytes hM hJ hcN
  have hmach := fun t h16 ht => times_mach (t := t) hM hJ hcN h16 ht
  have hpr := fun W h1 h2 => pairRows_calls M J L S T hM hJ bm bk p r hp hr W h1 h2
  have hRs : (mc (prodM M J L T (p * T + r))).size = 98 := by simp [mc, prodM, setM, qM, mkM]
  obtain ⟨A, hAe⟩ : ∃ A, ptA (prA M J T) L (p * T + r) = A := ⟨_, rfl⟩
  obtain ⟨N, hNe⟩ : ∃ N, (ptQ (prA M J T) L (p * T + r)).length = N := ⟨_, rfl⟩
  rw [hAe, hNe] at hcnt
  rw [hNe] at hpos hfew
  rw [hAe, hNe] at hIn hBy
  simp only [hAe, hNe] at hmach
  simp only [hAe, hNe] at hpr
  have HRf := Lib.hid (fun v W => refine_calls A L N hM.L3 hpos hfew hIn hBy v W)
  have hW : Below w.heap.size w (((w.alloc (.cells #[.pointer (some ⟨bm, 0, none⟩), .int .i64 (p : Int)] 57)).alloc (.cells #[.pointer (some ⟨bk, 0, none⟩), .int .i64 (r : Int)] 57)).alloc (.cells (mc zeroM) 28)) := by (repeat (first | exact Below.refl _ _ | refine below_drew' ?_ | refine below_drewN' ?_ _ | refine below_alloc' ?_ _ | refine below_set' ?_ (by (try simp); (try omega)) _ | refine below_step ?_ (by assumption)))
  have HPr := Lib.hid (hpr _ (hBm.kept hW hbm) (hBk.kept hW hBk.lt))
  have hG0 : Blk (((w.alloc (.cells #[.pointer (some ⟨bm, 0, none⟩), .int .i64 (p : Int)] 57)).alloc (.cells #[.pointer (some ⟨bk, 0, none⟩), .int .i64 (r : Int)] 57)).alloc (.cells (mc zeroM) 28)) w.heap.size #[.pointer (some ⟨bm, 0, none⟩), .int .i64 (p : Int)] 57 := ((Blk.new w _ _).alloc _).alloc _
  have hZ0 : Blk (((w.alloc (.cells #[.pointer (some ⟨bm, 0, none⟩), .int .i64 (p : Int)] 57)).alloc (.cells #[.pointer (some ⟨bk, 0, none⟩), .int .i64 (r : Int)] 57)).alloc (.cells (mc zeroM) 28)) (w.heap.size + 1 + 1) (mc zeroM) 28 := Blk.new_at _ _ _ _ (by simp)
  have hM0 := hBm.kept hW hbm
  have HW := Lib.hid hW
  have HG0 := Lib.hid hG0
  have HZ0 := Lib.hid hZ0
  have HM0 := Lib.hid hM0
  have HcL := Lib.hid (show (mc M)[0]? = some (.int .i64 (L : Int)) from by rw [mc_L, hM.hL])
  have hzm := zero_mach
  obtain ⟨PM, hPe⟩ : ∃ PM, mc (prodM M J L T (p * T + r)) = PM := ⟨_, rfl⟩
  rw [hPe] at hRs
  have HPe := Lib.hid hPe
  have HMa := Lib.hid (fun t (ht : AStill A L N t) v2 v1 W hv1 hv2 => machineAt_calls A L N (aNum A L t) hM.L2 hM.L3 hfew hIn hBy (fun i hi => by
    have h1 := aNum_le A L t i
    omega) v1 v2 0 hpos W hv1 hv2)
  have HMc : Hid (∀ t, AStill A L N t → mc (maR A (aNum A L t) L 0) = PM ∧ maC A (aNum A L t) L 0 = 0) := Lib.hid (fun t ht => ⟨by rw [(hmach t h16 ht).1, hPe], (hmach t h16 ht).2⟩)
  have HRk : Hid (∀ W W' e, refOk A L N W W' e → ∃ v t, e = .returned v ∧ AStill A L N t ∧ OwnN W' W.heap.size v ((List.range N).map (aNum A L t))) := Lib.hid (fun W W' e he => by
    unfold refOk at he
    rw [hcnt, if_pos h16] at he
    exact he)
  have HRs := Lib.hid hRs
  have HzS : Hid ((mc zeroM).size = 98) := Lib.hid (by simp [mc, zeroM])
  have F1 : Hid (cut PM 0 98 = PM) := Lib.hid (cut_all _ _ HRs.out)
  have F2 : Hid (over (mc zeroM) 0 PM = PM) := Lib.hid (over_all _ _ (by rw [HRs.out, HzS.out]))
  have HP0 := Lib.hid hpos
  have O1 : Hid (PM.all (·.oneCell') = true) := Lib.hid (by rw [← hPe]; exact mc_one _)
  clear hM hJ hBm hBk hG0 hZ0 hM0 hW hB hN hcN hcnt hpos hfew hIn hBy hmach hpr hRs hPe hAe hNe
  go_enter Try.func50, Try.ntmps50
  go_wp2_with (go_at_call 75; refine HPr.out.mono ?_; rintro e w1 ⟨v1, rfl, hv1, hb1⟩)
  have hdr : Below w1.heap.size w1 w1.drew := (Below.refl _ _).drew
  have hR_0 := hv1.below hdr
  have hb_0 := (HW.out.trans (below_le hb1 HW.out.size)).trans (below_le hdr (HW.out.trans (below_le hb1 HW.out.size)).size)
  have hZ_0 := (HZ0.out.keptAll hb1).keptAll hdr
  have hS_0 : Blk w1.drew w.heap.size #[.pointer (some ⟨bm, 0, none⟩), .int .i64 (p : Int)] 57 ∧ Blk w1.drew bm (mc M) 28 := ⟨(HG0.out.keptAll hb1).keptAll hdr, (HM0.out.keptAll hb1).keptAll hdr⟩
  clear hv1 hb1 hdr
  refine wp_region_held_drew (S := fun W => Blk W w.heap.size #[.pointer (some ⟨bm, 0, none⟩), .int .i64 (p : Int)] 57 ∧ Blk W bm (mc M) 28) (by kernel_rfl) hS_0 (fun hS0 => ?_)
  generalize w1.drew = W0 at *
  (refine hK_take 0 (.pointer (some ⟨w.heap.size, 0, none⟩)) rfl (by kernel_rfl) (by kernel_rfl) (by kernel_rfl) (fun _ _ _ h => h) rfl (fun W _ => by go_simp) hS0 ?_; (intro K hK; go_simp; refine hK _ ?_; clear hK K))
  (refine hK_take 1 (.pointer (some ⟨bm, 0, none⟩)) rfl (by kernel_rfl) (by kernel_rfl) (by kernel_rfl) (fun _ _ _ h => h) rfl (fun W hW => by have c1 : W.cell? ⟨w.heap.size, 0, none⟩ = some (.pointer (some ⟨bm, 0, none⟩)) := hW.1.cell 0; clear hW; go_simp) hS0 ?_; (intro K hK; go_simp; refine hK _ ?_; clear hK K))
  (refine hK_take 2 (.pointer (some ⟨bm, 0, none⟩)) rfl (by kernel_rfl) (by kernel_rfl) (by kernel_rfl) (fun _ _ _ h => h) rfl (fun W _ => by go_simp) hS0 ?_; (intro K hK; go_simp; refine hK _ ?_; clear hK K))
  (refine hK_take 3 (.pointer (some ⟨bm, 0, none⟩)) rfl (by kernel_rfl) (by kernel_rfl) (by kernel_rfl) (fun _ _ _ h => h) rfl (fun W _ => by go_simp) hS0 ?_; (intro K hK; go_simp; refine hK _ ?_; clear hK K))
  (refine hK_take 4 (.int .i64 (L : Int)) rfl (by kernel_rfl) (by kernel_rfl) (by kernel_rfl) (fun _ _ _ h => h) rfl (fun W hW => by have c1 := (hW.2.cell 0).trans HcL.out; clear hW; go_simp) hS0 ?_; (intro K hK; go_simp; refine hK _ ?_; clear hK K))
  (refine hK_take 5 (v1) rfl (by kernel_rfl) (by kernel_rfl) (by kernel_rfl) (fun _ _ _ h => h) rfl (fun W _ => by go_simp) hS0 ?_; (intro K hK; go_simp; refine hK _ ?_; clear hK K))
  (refine hK_take 6 (v1) rfl (by kernel_rfl) (by kernel_rfl) (by kernel_rfl) (fun _ _ _ h => h) rfl (fun W _ => by go_simp) hS0 ?_; (intro K hK; go_simp; refine hK _ ?_; clear hK K))
  clear hS0
  refine wpAnyH_ready (rs := [7, 12]) (by kernel_rfl) (by simp) ?_
  refine (AllReadyH.cons rfl (fun K hK => ?_) (AllReadyH.cons rfl (fun K hK => ?_) (AllReadyH.nil)))
  · go_simp
    refine (HRf.out v1 W0 hR_0).mono ?_
    rintro e W1 ⟨he, hc⟩
    obtain ⟨v2, t, rfl, ht, hv⟩ := HRk.out _ _ _ he
    have Ht := Lib.hid ht
    have hS_1 := And.intro (hS_0.1.keptAll hc) (hS_0.2.keptAll hc)
    have hZ_1 := hZ_0.keptAll hc
    have hR_1 := hR_0.below hc
    have hV_1 := hv.sees HP0.out
    have hb_1 := below_step hb_0 hc
    clear hc he hv ht hS_0 hZ_0 hR_0 hb_0
    go_simp
    refine hK.out _ _ hS_1 (fun hS => ?_)
    clear hK K hS
    refine wpAnyH_ready (rs := [8, 12]) (by kernel_rfl) (by simp) ?_
    refine (AllReadyH.cons rfl (fun K hK => ?_) (AllReadyH.cons rfl (fun K hK => ?_) (AllReadyH.nil)))
    · go_simp
      refine (HMa.out t Ht.out v2 v1 W1 hR_1 hV_1).mono ?_
      rintro e W2 ⟨rfl, hc⟩
      rw [(HMc.out t Ht.out).1, (HMc.out t Ht.out).2]
      have hS_2 := And.intro (hS_1.1.keptAll hc) (hS_1.2.keptAll hc)
      have hZ_2 := hZ_1.keptAll hc
      have hb_2 := below_step hb_1 hc
      clear hc hS_1 hZ_1 hR_1 hb_1 hV_1
      go_simp
      refine hK.out _ _ hS_2 (fun hS => ?_)
      clear hK K hS
      have hS := hS_2
      (refine hK_take 9 (.tuple #[.agg PM, .int .i64 0]) rfl (by kernel_rfl) (by kernel_rfl) (by kernel_rfl) (fun _ _ _ h => h) rfl (fun W _ => by go_simp) hS ?_; (intro K hK; go_simp; refine hK _ ?_; clear hK K))
      (refine hK_take 10 (.agg PM) rfl (by kernel_rfl) (by kernel_rfl) (by kernel_rfl) (fun _ _ _ h => h) rfl (fun W _ => by go_simp) hS ?_; (intro K hK; go_simp; refine hK _ ?_; clear hK K))
      (refine hK_take 11 (.int .i64 0) rfl (by kernel_rfl) (by kernel_rfl) (by kernel_rfl) (fun _ _ _ h => h) rfl (fun W _ => by go_simp) hS ?_; (intro K hK; go_simp; refine hK _ ?_; clear hK K))
      clear hS
      refine wpAnyH_ready (rs := [12]) (by kernel_rfl) (by simp) ?_
      refine (AllReadyH.cons rfl (fun K hK => ?_) (AllReadyH.nil))
      · go_simp
        have hS_3 := And.intro (hS_2.1.alloc (.cells (mc zeroM) 28)) (hS_2.2.alloc (.cells (mc zeroM) 28))
        have hZ_3 := hZ_2.alloc (.cells (mc zeroM) 28)
        have hN_3 : Blk (W2.alloc (.cells (mc zeroM) 28)) W2.heap.size (mc zeroM) 28 := Blk.new _ _ _
        have o6 := hZ_2.lt
        have hb_3 := below_alloc' hb_2 (.cells (mc zeroM) 28)
        refine hK.out _ _ hS_3 (fun hS => ?_)
        clear hK K hS hS_2 hZ_2 hb_2
        generalize W2.alloc (.cells (mc zeroM) 28) = W3 at *
        generalize W2.heap.size = b6 at *
        refine hK_store 13 rfl (by kernel_rfl) rfl 28 _ _ rfl b6 0 PM rfl rfl _ _ hN_3 (by rw [HRs.out, HzS.out]; omega) (by rw [HRs.out]; exact size_mach) O1.out _ F2.out (fun W4 hs => ⟨⟨hs.keep (by omega) hS_3.1, hs.keep (by omega) hS_3.2⟩, fun hS => ?_⟩)
        (intro K hK; go_simp; refine hK _ ?_; clear hK K)
        have hN_4 := hs.blk
        have hZ_4 := hs.keep (by omega) hZ_3
        have hb_4 := hs.below _ _ (by omega) hb_3
        clear hs hS_3 hZ_3 hN_3 hb_3
        (refine hK_take 14 (.int .i64 0) rfl (by kernel_rfl) (by kernel_rfl) (by kernel_rfl) (fun _ _ _ h => h) rfl (fun W _ => by go_simp) hS ?_; (intro K hK; go_simp; refine hK _ ?_; clear hK K))
        refine wpAnyH_done (by kernel_rfl) ?_ _
        clear hS
        go_wp2_with (first | ((with_reducible show wpList _ _ _ _ _ _); refine wpList_load_blk rfl 28 (.tmp 6) rfl b6 0 rfl _ _ hN_4 98 (by rw [HRs.out]; omega) _ Try.underlying28 rfl size_mach ?_; rw [F1.out]) | ((with_reducible show wpList _ _ _ _ _ _); refine wpList_store_blk rfl 28 (.tmp 4) (.tmp 23) rfl (w.heap.size + 1 + 1) 0 _ rfl rfl (mc zeroM) _ hZ_4 (by rw [HRs.out, HzS.out]; omega) (by rw [HRs.out]; exact size_mach) O1.out ?_; intro w4 hb4 hkeep _ hbl; rw [F2.out] at hb4; have hbw4 := hbl _ _ (by omega) hb_4; clear hkeep hbl))
        exact bodyPost_cell rfl rfl hb4 Try.underlying28 rfl (by rw [HRs.out]; exact size_mach) rfl ⟨by rw [HPe.out], hbw4⟩
    · go_simp
      have hS_2 := And.intro (hS_1.1.alloc (.cells (mc zeroM) 28)) (hS_1.2.alloc (.cells (mc zeroM) 28))
      have hZ_2 := hZ_1.alloc (.cells (mc zeroM) 28)
      have hN_2 : Blk (W1.alloc (.cells (mc zeroM) 28)) W1.heap.size (mc zeroM) 28 := Blk.new _ _ _
      have o6 := hZ_1.lt
      have hR_2 := hR_1.below (w1 := W1.alloc (.cells (mc zeroM) 28)) (by (repeat (first | exact Below.refl _ _ | refine below_drew' ?_ | refine below_drewN' ?_ _ | refine below_alloc' ?_ _ | refine below_set' ?_ (by (try simp); (try omega)) _ | refine below_step ?_ (by assumption))))
      have hV_2 := hV_1.below (w1 := W1.alloc (.cells (mc zeroM) 28)) (by (repeat (first | exact Below.refl _ _ | refine below_drew' ?_ | refine below_drewN' ?_ _ | refine below_alloc' ?_ _ | refine below_set' ?_ (by (try simp); (try omega)) _ | refine below_step ?_ (by assumption))))
      have hb_2 := below_alloc' hb_1 (.cells (mc zeroM) 28)
      refine hK.out _ _ hS_2 (fun hS => ?_)
      clear hK K hS hS_1 hZ_1 hb_1 hR_1 hV_1
      generalize W1.alloc (.cells (mc zeroM) 28) = W2 at *
      generalize W1.heap.size = b6 at *
      refine wpAnyH_ready (rs := [8]) (by kernel_rfl) (by simp) ?_
      refine (AllReadyH.cons rfl (fun K hK => ?_) (AllReadyH.nil))
      · go_simp
        refine (HMa.out t Ht.out v2 v1 W2 hR_2 hV_2).mono ?_
        rintro e W3 ⟨rfl, hc⟩
        rw [(HMc.out t Ht.out).1, (HMc.out t Ht.out).2]
        have hS_3 := And.intro (hS_2.1.keptAll hc) (hS_2.2.keptAll hc)
        have hZ_3 := hZ_2.keptAll hc
        have hN_3 := hN_2.keptAll hc
        have hb_3 := below_step hb_2 hc
        clear hc hS_2 hZ_2 hR_2 hb_2 hV_2 hN_2
        go_simp
        refine hK.out _ _ hS_3 (fun hS => ?_)
        clear hK K hS
        have hS := hS_3
        (refine hK_take 9 (.tuple #[.agg PM, .int .i64 0]) rfl (by kernel_rfl) (by kernel_rfl) (by kernel_rfl) (fun _ _ _ h => h) rfl (fun W _ => by go_simp) hS ?_; (intro K hK; go_simp; refine hK _ ?_; clear hK K))
        (refine hK_take 10 (.agg PM) rfl (by kernel_rfl) (by kernel_rfl) (by kernel_rfl) (fun _ _ _ h => h) rfl (fun W _ => by go_simp) hS ?_; (intro K hK; go_simp; refine hK _ ?_; clear hK K))
        (refine hK_take 11 (.int .i64 0) rfl (by kernel_rfl) (by kernel_rfl) (by kernel_rfl) (fun _ _ _ h => h) rfl (fun W _ => by go_simp) hS ?_; (intro K hK; go_simp; refine hK _ ?_; clear hK K))
        clear hS
        refine hK_store 13 rfl (by kernel_rfl) rfl 28 _ _ rfl b6 0 PM rfl rfl _ _ hN_3 (by rw [HRs.out, HzS.out]; omega) (by rw [HRs.out]; exact size_mach) O1.out _ F2.out (fun W4 hs => ⟨⟨hs.keep (by omega) hS_3.1, hs.keep (by omega) hS_3.2⟩, fun hS => ?_⟩)
        (intro K hK; go_simp; refine hK _ ?_; clear hK K)
        have hN_4 := hs.blk
        have hZ_4 := hs.keep (by omega) hZ_3
        have hb_4 := hs.below _ _ (by omega) hb_3
        clear hs hS_3 hZ_3 hN_3 hb_3
        (refine hK_take 14 (.int .i64 0) rfl (by kernel_rfl) (by kernel_rfl) (by kernel_rfl) (fun _ _ _ h => h) rfl (fun W _ => by go_simp) hS ?_; (intro K hK; go_simp; refine hK _ ?_; clear hK K))
        refine wpAnyH_done (by kernel_rfl) ?_ _
        clear hS
        go_wp2_with (first | ((with_reducible show wpList _ _ _ _ _ _); refine wpList_load_blk rfl 28 (.tmp 6) rfl b6 0 rfl _ _ hN_4 98 (by rw [HRs.out]; omega) _ Try.underlying28 rfl size_mach ?_; rw [F1.out]) | ((with_reducible show wpList _ _ _ _ _ _); refine wpList_store_blk rfl 28 (.tmp 4) (.tmp 23) rfl (w.heap.size + 1 + 1) 0 _ rfl rfl (mc zeroM) _ hZ_4 (by rw [HRs.out, HzS.out]; omega) (by rw [HRs.out]; exact size_mach) O1.out ?_; intro w4 hb4 hkeep _ hbl; rw [F2.out] at hb4; have hbw4 := hbl _ _ (by omega) hb_4; clear hkeep hbl))
        exact bodyPost_cell rfl rfl hb4 Try.underlying28 rfl (by rw [HRs.out]; exact size_mach) rfl ⟨by rw [HPe.out], hbw4⟩
  · go_simp
    have hS_1 := And.intro (hS_0.1.alloc (.cells (mc zeroM) 28)) (hS_0.2.alloc (.cells (mc zeroM) 28))
    have hZ_1 := hZ_0.alloc (.cells (mc zeroM) 28)
    have hN_1 : Blk (W0.alloc (.cells (mc zeroM) 28)) W0.heap.size (mc zeroM) 28 := Blk.new _ _ _
    have o6 := hZ_0.lt
    have hR_1 := hR_0.below (w1 := W0.alloc (.cells (mc zeroM) 28)) (by (repeat (first | exact Below.refl _ _ | refine below_drew' ?_ | refine below_drewN' ?_ _ | refine below_alloc' ?_ _ | refine below_set' ?_ (by (try simp); (try omega)) _ | refine below_step ?_ (by assumption))))
    have hb_1 := below_alloc' hb_0 (.cells (mc zeroM) 28)
    refine hK.out _ _ hS_1 (fun hS => ?_)
    clear hK K hS hS_0 hZ_0 hb_0 hR_0
    generalize W0.alloc (.cells (mc zeroM) 28) = W1 at *
    generalize W0.heap.size = b6 at *
    refine wpAnyH_ready (rs := [7]) (by kernel_rfl) (by simp) ?_
    refine (AllReadyH.cons rfl (fun K hK => ?_) (AllReadyH.nil))
    · go_simp
      refine (HRf.out v1 W1 hR_1).mono ?_
      rintro e W2 ⟨he, hc⟩
      obtain ⟨v2, t, rfl, ht, hv⟩ := HRk.out _ _ _ he
      have Ht := Lib.hid ht
      have hS_2 := And.intro (hS_1.1.keptAll hc) (hS_1.2.keptAll hc)
      have hZ_2 := hZ_1.keptAll hc
      have hN_2 := hN_1.keptAll hc
      have hR_2 := hR_1.below hc
      have hV_2 := hv.sees HP0.out
      have hb_2 := below_step hb_1 hc
      clear hc he hv ht hS_1 hZ_1 hR_1 hb_1 hN_1
      go_simp
      refine hK.out _ _ hS_2 (fun hS => ?_)
      clear hK K hS
      refine wpAnyH_ready (rs := [8]) (by kernel_rfl) (by simp) ?_
      refine (AllReadyH.cons rfl (fun K hK => ?_) (AllReadyH.nil))
      · go_simp
        refine (HMa.out t Ht.out v2 v1 W2 hR_2 hV_2).mono ?_
        rintro e W3 ⟨rfl, hc⟩
        rw [(HMc.out t Ht.out).1, (HMc.out t Ht.out).2]
        have hS_3 := And.intro (hS_2.1.keptAll hc) (hS_2.2.keptAll hc)
        have hZ_3 := hZ_2.keptAll hc
        have hN_3 := hN_2.keptAll hc
        have hb_3 := below_step hb_2 hc
        clear hc hS_2 hZ_2 hR_2 hb_2 hV_2 hN_2
        go_simp
        refine hK.out _ _ hS_3 (fun hS => ?_)
        clear hK K hS
        have hS := hS_3
        (refine hK_take 9 (.tuple #[.agg PM, .int .i64 0]) rfl (by kernel_rfl) (by kernel_rfl) (by kernel_rfl) (fun _ _ _ h => h) rfl (fun W _ => by go_simp) hS ?_; (intro K hK; go_simp; refine hK _ ?_; clear hK K))
        (refine hK_take 10 (.agg PM) rfl (by kernel_rfl) (by kernel_rfl) (by kernel_rfl) (fun _ _ _ h => h) rfl (fun W _ => by go_simp) hS ?_; (intro K hK; go_simp; refine hK _ ?_; clear hK K))
        (refine hK_take 11 (.int .i64 0) rfl (by kernel_rfl) (by kernel_rfl) (by kernel_rfl) (fun _ _ _ h => h) rfl (fun W _ => by go_simp) hS ?_; (intro K hK; go_simp; refine hK _ ?_; clear hK K))
        clear hS
        refine hK_store 13 rfl (by kernel_rfl) rfl 28 _ _ rfl b6 0 PM rfl rfl _ _ hN_3 (by rw [HRs.out, HzS.out]; omega) (by rw [HRs.out]; exact size_mach) O1.out _ F2.out (fun W4 hs => ⟨⟨hs.keep (by omega) hS_3.1, hs.keep (by omega) hS_3.2⟩, fun hS => ?_⟩)
        (intro K hK; go_simp; refine hK _ ?_; clear hK K)
        have hN_4 := hs.blk
        have hZ_4 := hs.keep (by omega) hZ_3
        have hb_4 := hs.below _ _ (by omega) hb_3
        clear hs hS_3 hZ_3 hN_3 hb_3
        (refine hK_take 14 (.int .i64 0) rfl (by kernel_rfl) (by kernel_rfl) (by kernel_rfl) (fun _ _ _ h => h) rfl (fun W _ => by go_simp) hS ?_; (intro K hK; go_simp; refine hK _ ?_; clear hK K))
        refine wpAnyH_done (by kernel_rfl) ?_ _
        clear hS
        go_wp2_with (first | ((with_reducible show wpList _ _ _ _ _ _); refine wpList_load_blk rfl 28 (.tmp 6) rfl b6 0 rfl _ _ hN_4 98 (by rw [HRs.out]; omega) _ Try.underlying28 rfl size_mach ?_; rw [F1.out]) | ((with_reducible show wpList _ _ _ _ _ _); refine wpList_store_blk rfl 28 (.tmp 4) (.tmp 23) rfl (w.heap.size + 1 + 1) 0 _ rfl rfl (mc zeroM) _ hZ_4 (by rw [HRs.out, HzS.out]; omega) (by rw [HRs.out]; exact size_mach) O1.out ?_; intro w4 hb4 hkeep _ hbl; rw [F2.out] at hb4; have hbw4 := hbl _ _ (by omega) hb_4; clear hkeep hbl))
        exact bodyPost_cell rfl rfl hb4 Try.underlying28 rfl (by rw [HRs.out]; exact size_mach) rfl ⟨by rw [HPe.out], hbw4⟩

set_option maxRecDepth 100000 in
set_option maxHeartbeats 3000000 in
theorem times_up (M J : Mach) (L S T : Nat) (hM : Good M L S) (hJ : Good J L T) (bm bk p r : Nat) (hp : p < S) (hr : r < T) (h16 : ¬ (prodQ M J L T (p * T + r)).length ≤ 16) (w : World) (hBm : Blk w bm (mc M) 28) (hBk : Blk w bk (mc J) 28) :
    Calls Try.prog 50 #[.agg #[.pointer (some ⟨bm, 0, none⟩), .int .i64 (p : Int)], .agg #[.pointer (some ⟨bk, 0, none⟩), .int .i64 (r : Int)]] w fun e w' => e = gaveUp 3 ∧ Below w.heap.size w w' := by
  have hbm := hBm.lt
  have hcN : p * T + r < S * T := by
    calc p * T + r < p * T + T := by omega
      _ = (p + 1) * T := by rw [Nat.succ_mul]
      _ ≤ S * T := Nat.mul_le_mul_right T hp
  have hB := prA_in hM hJ
  have hN := few_prod hM.S16 hJ.S16
  have hcnt : cntB (aRep (ptA (prA M J T) L (p * T + r)) L 256) (ptQ (prA M J T) L (p * T + r)).length = (prodQ M J L T (p * T + r)).length := pt_cnt hB hN hcN
  have hpos := ptQ_pos (prA M J T) L (p * T + r)
  have hfew := ptQ_few hB hN hcN
  have hIn := ptA_in hB hN hcN
  have hBy := ptA_bytes hM hJ hcN
  have hmach := fun t h16 ht => times_mach (t := t) hM hJ hcN h16 ht
  have hpr := fun W h1 h2 => pairRows_calls M J L S T hM hJ bm bk p r hp hr W h1 h2
  have hRs : (mc (prodM M J L T (p * T + r))).size = 98 := by simp [mc, prodM, setM, qM, mkM]
  obtain ⟨A, hAe⟩ : ∃ A, ptA (prA M J T) L (p * T + r) = A := ⟨_, rfl⟩
  obtain ⟨N, hNe⟩ : ∃ N, (ptQ (prA M J T) L (p * T + r)).length = N := ⟨_, rfl⟩
  rw [hAe, hNe] at hcnt
  rw [hNe] at hpos hfew
  rw [hAe, hNe] at hIn hBy
  simp only [hAe, hNe] at hmach
  simp only [hAe, hNe] at hpr
  have HRf := Lib.hid (fun v W => refine_calls A L N hM.L3 hpos hfew hIn hBy v W)
  have hW : Below w.heap.size w (((w.alloc (.cells #[.pointer (some ⟨bm, 0, none⟩), .int .i64 (p : Int)] 57)).alloc (.cells #[.pointer (some ⟨bk, 0, none⟩), .int .i64 (r : Int)] 57)).alloc (.cells (mc zeroM) 28)) := by (repeat (first | exact Below.refl _ _ | refine below_drew' ?_ | refine below_drewN' ?_ _ | refine below_alloc' ?_ _ | refine below_set' ?_ (by (try simp); (try omega)) _ | refine below_step ?_ (by assumption)))
  have HPr := Lib.hid (hpr _ (hBm.kept hW hbm) (hBk.kept hW hBk.lt))
  have hG0 : Blk (((w.alloc (.cells #[.pointer (some ⟨bm, 0, none⟩), .int .i64 (p : Int)] 57)).alloc (.cells #[.pointer (some ⟨bk, 0, none⟩), .int .i64 (r : Int)] 57)).alloc (.cells (mc zeroM) 28)) w.heap.size #[.pointer (some ⟨bm, 0, none⟩), .int .i64 (p : Int)] 57 := ((Blk.new w _ _).alloc _).alloc _
  have hZ0 : Blk (((w.alloc (.cells #[.pointer (some ⟨bm, 0, none⟩), .int .i64 (p : Int)] 57)).alloc (.cells #[.pointer (some ⟨bk, 0, none⟩), .int .i64 (r : Int)] 57)).alloc (.cells (mc zeroM) 28)) (w.heap.size + 1 + 1) (mc zeroM) 28 := Blk.new_at _ _ _ _ (by simp)
  have hM0 := hBm.kept hW hbm
  have HW := Lib.hid hW
  have HG0 := Lib.hid hG0
  have HZ0 := Lib.hid hZ0
  have HM0 := Lib.hid hM0
  have HcL := Lib.hid (show (mc M)[0]? = some (.int .i64 (L : Int)) from by rw [mc_L, hM.hL])
  have hzm := zero_mach
  have HRk : Hid (∀ W W' e, refOk A L N W W' e → e = gaveUp 3) := Lib.hid (fun W W' e he => by
    unfold refOk at he
    rw [hcnt, if_neg h16] at he
    exact he)
  clear hM hJ hBm hBk hG0 hZ0 hM0 hW hB hN hcN hcnt hpos hfew hIn hBy hmach hpr hRs hAe hNe
  go_enter Try.func50, Try.ntmps50
  go_wp2_with (go_at_call 75; refine HPr.out.mono ?_; rintro e w1 ⟨v1, rfl, hv1, hb1⟩)
  have hdr : Below w1.heap.size w1 w1.drew := (Below.refl _ _).drew
  have hR_0 := hv1.below hdr
  have hb_0 := (HW.out.trans (below_le hb1 HW.out.size)).trans (below_le hdr (HW.out.trans (below_le hb1 HW.out.size)).size)
  have hZ_0 := (HZ0.out.keptAll hb1).keptAll hdr
  have hS_0 : Blk w1.drew w.heap.size #[.pointer (some ⟨bm, 0, none⟩), .int .i64 (p : Int)] 57 ∧ Blk w1.drew bm (mc M) 28 := ⟨(HG0.out.keptAll hb1).keptAll hdr, (HM0.out.keptAll hb1).keptAll hdr⟩
  clear hv1 hb1 hdr
  refine wp_region_held_drew (S := fun W => Blk W w.heap.size #[.pointer (some ⟨bm, 0, none⟩), .int .i64 (p : Int)] 57 ∧ Blk W bm (mc M) 28) (by kernel_rfl) hS_0 (fun hS0 => ?_)
  generalize w1.drew = W0 at *
  (refine hK_take 0 (.pointer (some ⟨w.heap.size, 0, none⟩)) rfl (by kernel_rfl) (by kernel_rfl) (by kernel_rfl) (fun _ _ _ h => h) rfl (fun W _ => by go_simp) hS0 ?_; (intro K hK; go_simp; refine hK _ ?_; clear hK K))
  (refine hK_take 1 (.pointer (some ⟨bm, 0, none⟩)) rfl (by kernel_rfl) (by kernel_rfl) (by kernel_rfl) (fun _ _ _ h => h) rfl (fun W hW => by have c1 : W.cell? ⟨w.heap.size, 0, none⟩ = some (.pointer (some ⟨bm, 0, none⟩)) := hW.1.cell 0; clear hW; go_simp) hS0 ?_; (intro K hK; go_simp; refine hK _ ?_; clear hK K))
  (refine hK_take 2 (.pointer (some ⟨bm, 0, none⟩)) rfl (by kernel_rfl) (by kernel_rfl) (by kernel_rfl) (fun _ _ _ h => h) rfl (fun W _ => by go_simp) hS0 ?_; (intro K hK; go_simp; refine hK _ ?_; clear hK K))
  (refine hK_take 3 (.pointer (some ⟨bm, 0, none⟩)) rfl (by kernel_rfl) (by kernel_rfl) (by kernel_rfl) (fun _ _ _ h => h) rfl (fun W _ => by go_simp) hS0 ?_; (intro K hK; go_simp; refine hK _ ?_; clear hK K))
  (refine hK_take 4 (.int .i64 (L : Int)) rfl (by kernel_rfl) (by kernel_rfl) (by kernel_rfl) (fun _ _ _ h => h) rfl (fun W hW => by have c1 := (hW.2.cell 0).trans HcL.out; clear hW; go_simp) hS0 ?_; (intro K hK; go_simp; refine hK _ ?_; clear hK K))
  (refine hK_take 5 (v1) rfl (by kernel_rfl) (by kernel_rfl) (by kernel_rfl) (fun _ _ _ h => h) rfl (fun W _ => by go_simp) hS0 ?_; (intro K hK; go_simp; refine hK _ ?_; clear hK K))
  (refine hK_take 6 (v1) rfl (by kernel_rfl) (by kernel_rfl) (by kernel_rfl) (fun _ _ _ h => h) rfl (fun W _ => by go_simp) hS0 ?_; (intro K hK; go_simp; refine hK _ ?_; clear hK K))
  clear hS0
  refine wpAnyH_ready (rs := [7, 12]) (by kernel_rfl) (by simp) ?_
  refine (AllReadyH.cons rfl (fun K hK => ?_) (AllReadyH.cons rfl (fun K hK => ?_) (AllReadyH.nil)))
  · go_simp
    refine (HRf.out v1 W0 hR_0).mono ?_
    rintro e W1 ⟨he, hc⟩
    obtain rfl := HRk.out _ _ _ he
    have hb_1 := below_step hb_0 hc
    go_simp
    exact ⟨rfl, rfl, hb_1⟩
  · go_simp
    have hS_1 := And.intro (hS_0.1.alloc (.cells (mc zeroM) 28)) (hS_0.2.alloc (.cells (mc zeroM) 28))
    have hZ_1 := hZ_0.alloc (.cells (mc zeroM) 28)
    have hN_1 : Blk (W0.alloc (.cells (mc zeroM) 28)) W0.heap.size (mc zeroM) 28 := Blk.new _ _ _
    have o6 := hZ_0.lt
    have hR_1 := hR_0.below (w1 := W0.alloc (.cells (mc zeroM) 28)) (by (repeat (first | exact Below.refl _ _ | refine below_drew' ?_ | refine below_drewN' ?_ _ | refine below_alloc' ?_ _ | refine below_set' ?_ (by (try simp); (try omega)) _ | refine below_step ?_ (by assumption))))
    have hb_1 := below_alloc' hb_0 (.cells (mc zeroM) 28)
    refine hK.out _ _ hS_1 (fun hS => ?_)
    clear hK K hS hS_0 hZ_0 hb_0 hR_0
    generalize W0.alloc (.cells (mc zeroM) 28) = W1 at *
    generalize W0.heap.size = b6 at *
    refine wpAnyH_ready (rs := [7]) (by kernel_rfl) (by simp) ?_
    refine (AllReadyH.cons rfl (fun K hK => ?_) (AllReadyH.nil))
    · go_simp
      refine (HRf.out v1 W1 hR_1).mono ?_
      rintro e W2 ⟨he, hc⟩
      obtain rfl := HRk.out _ _ _ he
      have hb_2 := below_step hb_1 hc
      go_simp
      exact ⟨rfl, rfl, hb_2⟩
end Go.Proofs.Ytkkooafjpancoaa

namespace Go.Proofs.Ytkkooafjpancoaa
open Go.RowKit

/-- A factor: a machine with S states that lies in block b, and a state of it. -/
structure Fac where
  m : Mach
  S : Nat
  b : Nat
  q : Nat
/-- The product, and whether no machine on the way is too large. -/
def facs (L : Nat) : Mach → List Fac → Mach × Bool
  | P, [] => (P, true)
  | P, f :: fs => if (prodQ P f.m L f.S (0 * f.S + f.q)).length ≤ 16 then facs L (prodM P f.m L f.S (0 * f.S + f.q)) fs else (P, false)
theorem facs_next {L : Nat} {P : Mach} {f : Fac} {fs : List Fac} (h : (prodQ P f.m L f.S (0 * f.S + f.q)).length ≤ 16) : facs L P (f :: fs) = facs L (prodM P f.m L f.S (0 * f.S + f.q)) fs := by
  rw [facs, if_pos h]
theorem facs_up {L : Nat} {P : Mach} {f : Fac} {fs : List Fac} (h : ¬ (prodQ P f.m L f.S (0 * f.S + f.q)).length ≤ 16) : facs L P (f :: fs) = (P, false) := by
  rw [facs, if_neg h]
/-- What productOf answers. -/
def facsOk (L : Nat) (fs : List Fac) (e : Ending) : Prop := if (facs L (trivM L) fs).2 = true then e = .returned (.agg (mc (facs L (trivM L) fs).1)) else e = gaveUp 3
/-- A slice of guides can be read. -/
def SeesG (w : World) (v : Value) (fs : List Fac) : Prop := ∃ oa cap, v = .slice oa fs.length cap ∧ (0 < fs.length → ∃ g cur, oa = some ⟨g, 0, none⟩ ∧ Blk w g cur 57 ∧ ∀ i (hi : i < fs.length), cur[i * 2]? = some (.pointer (some ⟨fs[i].b, 0, none⟩)) ∧ cur[i * 2 + 1]? = some (.int .i64 (fs[i].q : Int)))
theorem SeesG.below {w w1 : World} {v : Value} {fs : List Fac} (h : SeesG w v fs) (hb : Below w.heap.size w w1) : SeesG w1 v fs := by
  obtain ⟨oa, cap, rfl, hq⟩ := h
  refine ⟨oa, cap, rfl, fun h0 => ?_⟩
  obtain ⟨g, cur, e, hB, hc⟩ := hq h0
  exact ⟨g, cur, e, hB.keptAll hb, hc⟩
theorem info_guide : (Try.prog.info? 57).map (fun i => (i.zero, i.size)) = some (some (.agg #[.pointer none, .int .i64 0]), 2) := by kernel_rfl
theorem zero_guide : ∀ w, (zeroValue 57).run Try.prog w = .ok (.agg #[.pointer none, .int .i64 0]) w := (zero_of_info info_guide).1
theorem size_guide : (Try.prog.info? 57).map (·.size) = some 2 := (zero_of_info info_guide).2
theorem cut_two {cur : Array Value} {k : Nat} {a b : Value} (h1 : cur[k]? = some a) (h2 : cur[k + 1]? = some b) : cut cur k 2 = #[a, b] ∧ k + 2 ≤ cur.size := by
  refine ⟨?_, ?_⟩
  · apply Array.ext_getElem?
    intro j
    rw [get_cut]
    by_cases hj : j < 2
    · rw [if_pos hj]
      rcases (show j = 0 ∨ j = 1 by omega) with rfl | rfl
      · exact h1
      · exact h2
    · rw [if_neg hj, Array.getElem?_eq_none (by show 2 ≤ j; omega)]
  · rcases Nat.lt_or_ge (k + 1) cur.size with h | h
    · omega
    · rw [Array.getElem?_eq_none (by omega)] at h2; cases h2
theorem two_one (b : Nat) (q : Int) : (#[.pointer (some ⟨b, 0, none⟩), .int .i64 q] : Array Value).all (·.oneCell') = true := by simp [Value.oneCell']

set_option maxRecDepth 100000 in
set_option maxHeartbeats 2000000 in
theorem productOf_calls (L : Nat) (h2 : 2 ≤ L) (h3 : L ≤ 3) (fs : List Fac) (hlen : fs.length ≤ 1048576) (hfs : ∀ f ∈ fs, Good f.m L f.S ∧ f.q < f.S) (v : Value) (w : World) (hv : SeesG w v fs) (hb : ∀ f ∈ fs, Blk w f.b (mc f.m) 28) :
    Calls Try.prog 53 #[.int .i64 (L : Int), v] w fun e w' => facsOk L fs e ∧ Below w.heap.size w w' := by
  have hz := zero_mach
  have hzg := zero_guide
  have hR : Blk (w.alloc (.cells (mc zeroM) 28)) w.heap.size (mc zeroM) 28 := Blk.new _ _ _
  have hbw0 : Below w.heap.size w (w.alloc (.cells (mc zeroM) 28)) := by (repeat (first | exact Below.refl _ _ | refine below_drew' ?_ | refine below_drewN' ?_ _ | refine below_alloc' ?_ _ | refine below_set' ?_ (by (try simp); (try omega)) _ | refine below_step ?_ (by assumption)))
  have HzS : Hid ((mc zeroM).size = 98) := Lib.hid (mc_size zeroM_ok)
  have Hv : Hid (∀ W, Below w.heap.size w W → SeesG W v fs) := Lib.hid (fun W hW => hv.below hW)
  have Hb : Hid (∀ W, Below w.heap.size w W → ∀ f ∈ fs, Blk W f.b (mc f.m) 28) := Lib.hid (fun W hW f hf => (hb f hf).kept hW (hb f hf).lt)
  have Hfs := Lib.hid hfs
  have HmS : Hid (∀ {M : Mach} {L S : Nat}, Good M L S → (mc M).size = 98) := Lib.hid (fun h => mc_size h.ok)
  have HtS : Hid ((mc (trivM L)).size = 98) := Lib.hid (mc_size (trivM_good h2 h3).ok)
  have G4 : Hid (over (mc zeroM) 0 (mc (trivM L)) = mc (trivM L)) := Lib.hid (over_all _ _ (by rw [HzS.out, HtS.out]))
  obtain ⟨oa, cap, rfl, hq⟩ := id hv
  clear hq hv hb hfs
  go_enter Try.func53, Try.ntmps53
  go_wp2_with (first | (go_at_call 66; refine (trivialMachine_calls L h3 _).mono ?_; rintro e w1 ⟨rfl, hb1⟩; have hR1 := hR.keptAll hb1; have hbw1 := below_step hbw0 hb1) | ((with_reducible show wpList _ _ _ _ _ _); refine wpList_store_blk rfl 28 (.tmp 5) (.tmp 9) rfl w1.heap.size 0 (mc (trivM L)) rfl rfl (mc zeroM) 28 (Blk.new _ _ _) (by rw [HtS.out, HzS.out]; omega) (by rw [HtS.out]; exact size_mach) (mc_one _) ?_; intro w3 hb3 hkeep hsz3 hbl; rw [G4.out] at hb3))
  have hge1 := hbw1.size
  have hbw3 := hbl w.heap.size w hge1 (below_alloc' hbw1 _)
  have hR3 := hkeep _ _ _ (by have := hR1.lt; omega) (hR1.alloc (.cells (mc zeroM) 28))
  have hlt5 : w.heap.size < w1.heap.size := hR1.lt
  clear hkeep hbl hsz3 hb1 hR1 hbw1 hR hbw0
  obtain ⟨b5, hb5⟩ : ∃ b5, w1.heap.size = b5 := ⟨_, rfl⟩
  rw [hb5] at hb3 hlt5 hge1
  rw [hb5]
  clear hb5
  go_loopw [12] (fun i wr => ∃ (k : Nat) (P : Mach) (SP : Nat), k ≤ fs.length ∧ i = .int .i64 k ∧ Good P L SP ∧ 0 < SP ∧ facs L P (fs.drop k) = facs L (trivM L) fs ∧ Blk wr w.heap.size (mc zeroM) 28 ∧ Blk wr b5 (mc P) 28 ∧ Below w.heap.size w wr) (fun i _ => fs.length - (intOf i).toNat)
  case atStart => exact ⟨0, trivM L, 1, by omega, rfl, trivM_good h2 h3, by omega, rfl, hR3, hb3, hbw3⟩
  case round =>
    clear hR3 hb3 hbw3
    obtain ⟨k, P, SP, hk, rfl, hP, h0P, hfa, hR, hN, hbw⟩ := hrel
    have HP := Lib.hid hP
    have Hfa := Lib.hid hfa
    have hPs := HmS.out hP
    by_cases hlt : k < fs.length
    · have hlti : (k : Int) < (fs.length : Int) := by omega
      obtain ⟨oa', cap', he, hq⟩ := Hv.out wr hbw
      obtain ⟨rfl, rfl⟩ : oa = oa' ∧ cap = cap' := by cases he; exact ⟨rfl, rfl⟩
      obtain ⟨g, cur, rfl, hBg, hcur⟩ := hq (by omega)
      obtain ⟨c1, c2⟩ := hcur k hlt
      obtain ⟨hcut, hroom⟩ := cut_two c1 c2
      have hmem : fs[k] ∈ fs := List.getElem_mem hlt
      obtain ⟨hgf, hqf⟩ := Hfs.out _ hmem
      have hBf := Hb.out wr hbw _ hmem
      have hdr : fs.drop k = fs[k] :: fs.drop (k + 1) := List.drop_eq_getElem_cons hlt
      rw [hdr] at Hfa
      generalize fs[k] = f at *
      clear he hq hcur c1 c2 hdr hfa hP
      have Hgf := Lib.hid hgf
      clear hgf
      have hf0 := hBf.lt
      have hRl := hR.lt
      have hNl := hN.lt
      have HSt : Hid (∀ w5, Stored (wr.alloc (.cells #[.pointer none, .int .i64 0] 57)) w5 wr.heap.size #[.pointer (some ⟨f.b, 0, none⟩), .int .i64 (f.q : Int)] 57 → Blk w5 b5 (mc P) 28 ∧ Blk w5 f.b (mc f.m) 28 ∧ Blk w5 w.heap.size (mc zeroM) 28 ∧ Below w.heap.size w w5) := Lib.hid (fun w5 hs =>
        ⟨hs.keep (by omega) (hN.alloc _), hs.keep (by omega) (hBf.alloc _), hs.keep (by omega) (hR.alloc _), hs.below _ _ (by omega) (below_alloc' hbw _)⟩)
      have Hov : Hid (over #[.pointer none, .int .i64 0] 0 #[.pointer (some ⟨f.b, 0, none⟩), .int .i64 (f.q : Int)] = #[.pointer (some ⟨f.b, 0, none⟩), .int .i64 (f.q : Int)]) := Lib.hid (over_all _ _ rfl)
      have Hcu : Hid (cut #[.pointer (some ⟨f.b, 0, none⟩), .int .i64 (f.q : Int)] 0 2 = #[.pointer (some ⟨f.b, 0, none⟩), .int .i64 (f.q : Int)]) := Lib.hid (cut_all _ _ rfl)
      have Hon := Lib.hid (two_one f.b (f.q : Int))
      have Hmeas : Hid (fs.length - (k + 1) < fs.length - k) := Lib.hid (by omega)
      clear hBf
      by_cases h16 : (prodQ P f.m L f.S (0 * f.S + f.q)).length ≤ 16
      · have HTi : Hid (∀ W, Blk W b5 (mc P) 28 → Blk W f.b (mc f.m) 28 → Calls Try.prog 50 #[.agg #[.pointer (some ⟨b5, 0, none⟩), .int .i64 0], .agg #[.pointer (some ⟨f.b, 0, none⟩), .int .i64 (f.q : Int)]] W fun e w' => e = .returned (.agg (mc (prodM P f.m L f.S (0 * f.S + f.q)))) ∧ Below W.heap.size W w') := Lib.hid (fun W h1 h2 => times_ok P f.m L SP f.S HP.out Hgf.out b5 f.b 0 f.q h0P hqf h16 W h1 h2)
        have Hnx := Lib.hid ((facs_next (fs := fs.drop (k + 1)) h16).symm.trans Hfa.out)
        have HgQ := prodM_good HP.out Hgf.out (p0 := 0 * f.S + f.q) (by
          calc 0 * f.S + f.q < f.S := by omega
            _ ≤ SP * f.S := Nat.le_mul_of_pos_left _ h0P) h16
        have h0Q : 0 < (prodQ P f.m L f.S (0 * f.S + f.q)).length := bAll_pos _ _ _
        generalize (prodQ P f.m L f.S (0 * f.S + f.q)).length = SQ at *
        generalize prodM P f.m L f.S (0 * f.S + f.q) = Q at *
        have HQs := Lib.hid (HmS.out HgQ)
        have HPs := Lib.hid hPs
        have HQov : Hid (over (mc P) 0 (mc Q) = mc Q) := Lib.hid (over_all _ _ (by rw [HQs.out, hPs]))
        have HGQ := Lib.hid HgQ
        clear HgQ hPs
        go_wp2_with (first | ((with_reducible show wpList _ _ _ _ _ _); refine wpList_load_blk rfl 57 (.tmp 14) rfl g (k * 2) rfl cur _ hBg 2 hroom _ Try.underlying57 rfl size_guide ?_; rw [hcut]) | ((with_reducible show wpList _ _ _ _ _ _); refine wpList_store_row rfl 57 (.tmp 7) (.tmp 15) rfl wr.heap.size 0 #[.pointer (some ⟨f.b, 0, none⟩), .int .i64 (f.q : Int)] rfl rfl #[.pointer none, .int .i64 0] 57 (Blk.new _ _ _) (Nat.le_refl 2) size_guide Hon.out _ Hov.out ?_; intro w5 hs5; have hB7 := hs5.blk; obtain ⟨hN5, hf5, hR5, hbw5⟩ := HSt.out w5 hs5; clear hs5) | ((with_reducible show wpList _ _ _ _ _ _); refine wpList_load_blk rfl 57 (.tmp 7) rfl wr.heap.size 0 rfl _ _ hB7 2 (Nat.le_refl 2) _ Try.underlying57 rfl size_guide ?_; rw [Hcu.out]) | (go_at_call 50; refine (HTi.out w5 hN5 hf5).mono ?_; rintro e w6 ⟨rfl, hb6⟩; have hN6 := hN5.keptAll hb6; have hR6 := hR5.keptAll hb6; have hbw6 := below_step hbw5 hb6) | ((with_reducible show wpList _ _ _ _ _ _); refine wpList_store_blk rfl 28 (.tmp 5) (.tmp 18) rfl b5 0 (mc Q) rfl rfl (mc P) 28 hN6 (by rw [HQs.out, HPs.out]; omega) (by rw [HQs.out]; exact size_mach) (mc_one _) ?_; intro w7 hb7 hkeep _ hbl; rw [HQov.out] at hb7))
        have hR7 := hkeep w.heap.size _ _ (Nat.ne_of_lt hlt5) hR6
        have hbw7 := hbl w.heap.size w hge1 hbw6
        clear hkeep hbl
        go_roundw
        case rel => exact ⟨k + 1, Q, SQ, by omega, by go_num, HGQ.out, h0Q, Hnx.out, hR7, hb7, hbw7⟩
        case measure => simp [intOf] <;> omega
      · have HTi : Hid (∀ W, Blk W b5 (mc P) 28 → Blk W f.b (mc f.m) 28 → Calls Try.prog 50 #[.agg #[.pointer (some ⟨b5, 0, none⟩), .int .i64 0], .agg #[.pointer (some ⟨f.b, 0, none⟩), .int .i64 (f.q : Int)]] W fun e w' => e = gaveUp 3 ∧ Below W.heap.size W w') := Lib.hid (fun W h1 h2 => times_up P f.m L SP f.S HP.out Hgf.out b5 f.b 0 f.q h0P hqf h16 W h1 h2)
        have Hup : Hid (¬ (facs L (trivM L) fs).2 = true) := Lib.hid (by rw [← Hfa.out, facs_up h16]; simp)
        go_wp2_with (first | ((with_reducible show wpList _ _ _ _ _ _); refine wpList_load_blk rfl 57 (.tmp 14) rfl g (k * 2) rfl cur _ hBg 2 hroom _ Try.underlying57 rfl size_guide ?_; rw [hcut]) | ((with_reducible show wpList _ _ _ _ _ _); refine wpList_store_row rfl 57 (.tmp 7) (.tmp 15) rfl wr.heap.size 0 #[.pointer (some ⟨f.b, 0, none⟩), .int .i64 (f.q : Int)] rfl rfl #[.pointer none, .int .i64 0] 57 (Blk.new _ _ _) (Nat.le_refl 2) size_guide Hon.out _ Hov.out ?_; intro w5 hs5; have hB7 := hs5.blk; obtain ⟨hN5, hf5, hR5, hbw5⟩ := HSt.out w5 hs5; clear hs5) | ((with_reducible show wpList _ _ _ _ _ _); refine wpList_load_blk rfl 57 (.tmp 7) rfl wr.heap.size 0 rfl _ _ hB7 2 (Nat.le_refl 2) _ Try.underlying57 rfl size_guide ?_; rw [Hcu.out]) | (go_at_call 50; refine (HTi.out w5 hN5 hf5).mono ?_; rintro e w6 ⟨he, hb6⟩; have hbw6 := below_step hbw5 hb6; unfold gaveUp at he; subst he))
        exact ⟨rfl, by unfold facsOk; rw [if_neg Hup.out]; rfl, hbw6⟩
    · have hnlti : ¬ (k : Int) < (fs.length : Int) := by omega
      obtain rfl : k = fs.length := by omega
      have Hpe : Hid (facs L (trivM L) fs = (P, true)) := Lib.hid (by rw [← Hfa.out, List.drop_length]; rfl)
      have F1 : Hid (cut (mc P) 0 98 = mc P) := Lib.hid (cut_all _ _ hPs)
      have F2 : Hid (over (mc zeroM) 0 (mc P) = mc P) := Lib.hid (over_all _ _ (by rw [hPs, HzS.out]))
      have HPs := Lib.hid hPs
      clear hPs hfa
      go_wp2_with (first | ((with_reducible show wpList _ _ _ _ _ _); refine wpList_load_blk rfl 28 (.tmp 5) rfl b5 0 rfl _ _ hN 98 (by rw [HPs.out]; omega) _ Try.underlying28 rfl size_mach ?_; rw [F1.out]) | ((with_reducible show wpList _ _ _ _ _ _); refine wpList_store_blk rfl 28 (.tmp 4) (.tmp 20) rfl w.heap.size 0 _ rfl rfl (mc zeroM) _ hR (by rw [HPs.out, HzS.out]; omega) (by rw [HPs.out]; exact size_mach) (mc_one _) ?_; intro w4 hb4 hkeep _ hbl; rw [F2.out] at hb4; have hbw4 := hbl _ _ (by omega) hbw; clear hkeep hbl))
      exact bodyPost_cell rfl rfl hb4 Try.underlying28 rfl (by rw [HPs.out]; exact size_mach) rfl ⟨by unfold facsOk; rw [Hpe.out]; rfl, hbw4⟩
end Go.Proofs.Ytkkooafjpancoaa
