/- 'levelGraphOf': the program. -/
import Derived.Test.YticnpajbefflbaaGrD
import Derived.Test.YticnpajbefflbaaLawB
namespace Go.Proofs.Yticnpajbefflbaa
open Go.RowKit

set_option maxRecDepth 100000 in
theorem isGraphLevel_calls (L : Nat) (hL : L = 2 ∨ L = 3) (n : Int) (w : World) :
    Calls Try.prog 78 #[.int .i64 L, .int .i64 n] w fun e w' => e = .returned (.bool (decide (0 ≤ n) && decide (n ≤ 7 - (L : Int)))) ∧ w = w' := by
  have HI := Lib.hid (isLevel_calls n w)
  by_cases hn : 0 ≤ n ∧ n ≤ 5
  · rw [(isLev_iff n).2 hn] at HI
    obtain ⟨h0, h5⟩ := hn
    rcases hL with rfl | rfl
    · have Hr : Hid ((decide (0 ≤ n) && decide (n ≤ 7 - ((2 : Nat) : Int))) = true) := Lib.hid (by simp; omega)
      go_enter Try.func78, Try.ntmps78
      go_wp2_with (go_at_call 62; refine HI.out.mono ?_; rintro e w' ⟨rfl, rfl⟩)
      go_ret
      exact ⟨ret_bool Hr.out.symm, rfl⟩
    · by_cases h4 : n ≤ 4
      · have Hr : Hid ((decide (0 ≤ n) && decide (n ≤ 7 - ((3 : Nat) : Int))) = true) := Lib.hid (by simp; omega)
        go_enter Try.func78, Try.ntmps78
        go_wp2_with (go_at_call 62; refine HI.out.mono ?_; rintro e w' ⟨rfl, rfl⟩)
        go_ret
        exact ⟨ret_bool Hr.out.symm, rfl⟩
      · have Hr : Hid ((decide (0 ≤ n) && decide (n ≤ 7 - ((3 : Nat) : Int))) = false) := Lib.hid (by simp; omega)
        have h4b : decide (n ≤ 4) = false := by simpa using h4
        clear h4
        go_enter Try.func78, Try.ntmps78
        go_wp2_with (go_at_call 62; refine HI.out.mono ?_; rintro e w' ⟨rfl, rfl⟩)
        go_ret
        exact ⟨ret_bool Hr.out.symm, rfl⟩
  · rw [(isLev_no n).2 hn] at HI
    have Hr : Hid ((decide (0 ≤ n) && decide (n ≤ 7 - (L : Int))) = false) := Lib.hid (by
      cases h : (decide (0 ≤ n) && decide (n ≤ 7 - (L : Int)))
      · rfl
      · simp at h; omega)
    clear hn
    go_enter Try.func78, Try.ntmps78
    go_wp2_with (go_at_call 62; refine HI.out.mono ?_; rintro e w' ⟨rfl, rfl⟩)
    go_ret
    exact ⟨ret_bool Hr.out.symm, rfl⟩

theorem SeesSt.steps {w : World} {v : Value} {ps : List (Int × List Int)} (h : SeesSt w v ps) : ∃ g cap, v = .slice (some ⟨g, 0, none⟩) ps.length cap ∧ g < w.heap.size ∧ ∀ j (hj : j < ps.length), ∃ o c, w.cell? ⟨g, j * 2, none⟩ = some (.int .i64 ps[j].1) ∧ w.cell? ⟨g, j * 2 + 1, none⟩ = some (.slice o ps[j].2.length c) ∧ SeesI w (.slice o ps[j].2.length c) ps[j].2 := by
  obtain ⟨g, cap, us, hl, hv, hg, hc⟩ := h.at
  refine ⟨g, cap, hv, hg, fun j hj => ?_⟩
  obtain ⟨c1, c2, c3⟩ := hc j hj (by omega)
  obtain ⟨o, c, he, _⟩ := c3.view
  rw [he] at c2 c3
  exact ⟨o, c, c1, c2, c3⟩
theorem SeesSt.fw {w : World} {v : Value} {M : Mach} {L n S : Nat} (h : SeesSt w v (fwd M L n S)) : ∃ g cap, v = .slice (some ⟨g, 0, none⟩) S cap ∧ g < w.heap.size ∧ ∀ j, j < S → ∃ o c, w.cell? ⟨g, j * 2, none⟩ = some (.int .i64 ((j : Int) + 1)) ∧ w.cell? ⟨g, j * 2 + 1, none⟩ = some (.slice o (permL M L j n).length c) ∧ SeesI w (.slice o (permL M L j n).length c) (permL M L j n) := by
  obtain ⟨g, cap, hv, hg, hc⟩ := h.steps
  rw [fwd_len] at hv
  refine ⟨g, cap, hv, hg, fun j hj => ?_⟩
  have := hc j (by rw [fwd_len]; exact hj)
  simpa [fwd] using this
theorem SeesSt.bw {w : World} {v : Value} {M : Mach} {L n S : Nat} (h : SeesSt w v (bwd M L S n S)) : ∃ g cap, v = .slice (some ⟨g, 0, none⟩) S cap ∧ g < w.heap.size ∧ ∀ j, j < S → ∃ o c, w.cell? ⟨g, j * 2, none⟩ = some (.int .i64 (-(j : Int) - 1)) ∧ w.cell? ⟨g, j * 2 + 1, none⟩ = some (.slice o (permL (invM M L S) L j n).length c) ∧ SeesI w (.slice o (permL (invM M L S) L j n).length c) (permL (invM M L S) L j n) := by
  obtain ⟨g, cap, hv, hg, hc⟩ := h.steps
  rw [bwd_len] at hv
  refine ⟨g, cap, hv, hg, fun j hj => ?_⟩
  have := hc j (by rw [bwd_len]; exact hj)
  simpa [bwd] using this
/-- A graph's cells. -/
def gra (N : Int) (f b : Value) : Array Value := #[.int .i64 N, f, b]
def gr0 : Array Value := #[.int .i64 0, .slice none 0 0, .slice none 0 0]
theorem info_gr : (Try.prog.info? 82).map (fun i => (i.zero, i.size)) = some (some (.agg gr0), 3) := by kernel_rfl
theorem zero_gr : ∀ w, (zeroValue 82).run Try.prog w = .ok (.agg gr0) w := (zero_of_info info_gr).1
theorem size_gr : (Try.prog.info? 82).map (·.size) = some 3 := (zero_of_info info_gr).2
theorem build_gr0 : ∀ w, (Instr.build 82 #[]).run Try.prog w = .ok (.agg gr0) w := fun _ => by kernel_rfl
theorem gr_one (N : Int) (oa ob : Option Addr) (n m ca cb : Nat) : (gra N (.slice oa n ca) (.slice ob m cb)).all (·.oneCell') = true := by simp [gra, Value.oneCell']
theorem gr0_one : gr0.all (·.oneCell') = true := by kernel_rfl
theorem built_gr1 (N : Int) : Try.prog.built 82 [(0, .int .i64 N)] = some (gra N (.slice none 0 0) (.slice none 0 0)) := by kernel_rfl
theorem gra_at (N : Int) (f b : Value) : (gra N f b)[0]? = some (.int .i64 N) ∧ (gra N f b)[1]? = some f ∧ (gra N f b)[2]? = some b := ⟨rfl, rfl, rfl⟩
theorem isGr_bad {M : Mach} {n : Int} {ks : List Int} {c : Int} (hc : gC M n ks = c) (h0 : c ≠ 0) : (isMach M = false ∧ c = 1) ∨ (isMach M = true ∧ gLev M n = false ∧ c = 2) ∨ (isMach M = true ∧ gLev M n = true ∧ inK (M.L.toNat ^ n.toNat) ks = false ∧ c = 2) := by
  unfold gC at hc
  cases hm : isMach M
  · rw [hm] at hc; simp at hc; exact .inl ⟨rfl, hc.symm⟩
  · rw [hm] at hc
    simp only [if_true] at hc
    cases hl : gLev M n
    · rw [hl] at hc; simp at hc; exact .inr (.inl ⟨rfl, rfl, hc.symm⟩)
    · cases hk : inK (M.L.toNat ^ n.toNat) ks
      · rw [hl, hk] at hc; simp at hc; exact .inr (.inr ⟨rfl, rfl, rfl, hc.symm⟩)
      · rw [hl, hk] at hc; simp at hc; exact absurd hc.symm h0

set_option maxRecDepth 100000 in
set_option maxHeartbeats 2000000 in
theorem levelGraphOf_bad (M : Mach) (hok : M.Ok) (n : Int) (v : Value) (ks : List Int) (hks : ks.length ≤ 1000) (c : Int) (hc : gC M n ks = c) (h0 : c ≠ 0) (w : World) (hv : SeesI w v ks) :
    Calls Try.prog 56 #[.agg (mc M), .int .i64 n, v] w fun e w' => e = .returned (.tuple #[.agg gr0, .int .i64 c]) ∧ Below w.heap.size w w' := by
  have F1 : Hid (cut (mc M) 0 98 = mc M) := Lib.hid (cut_all _ _ (mc_size hok)); have F2 : Hid (0 + 98 ≤ (mc M).size) := Lib.hid (by rw [mc_size hok]; omega)
  have hzg := zero_gr
  have hzm := zero_mach
  have hbg := build_gr0
  have Hg0 : Hid (gr0.size = 3) := Lib.hid rfl
  have Hgo : Hid (over gr0 0 gr0 = gr0) := Lib.hid (over_all _ _ rfl)
  have HsZ : Hid ((mc zeroM).size = 98) := Lib.hid (mc_size zeroM_ok)
  have HsI : Hid ((mc (invRes M)).size = 98) := Lib.hid (mc_size (invRes_ok hok))
  have Ho : Hid (over (mc zeroM) 0 (mc (invRes M)) = mc (invRes M)) := Lib.hid (over_all _ _ (by rw [HsI.out, HsZ.out]))
  have hB : Blk ((w.alloc (.cells (mc M) 29)).alloc (.cells gr0 82)) w.heap.size (mc M) 29 := (Blk.new w _ _).alloc _
  have hR : Blk ((w.alloc (.cells (mc M) 29)).alloc (.cells gr0 82)) (w.heap.size + 1) gr0 82 := Blk.new_at _ _ _ _ (by simp)
  have hbw : Below w.heap.size w ((w.alloc (.cells (mc M) 29)).alloc (.cells gr0 82)) := by (repeat (first | exact Below.refl _ _ | refine below_drew' ?_ | refine below_drewN' ?_ _ | refine below_alloc' ?_ _ | refine below_set' ?_ (by (try simp); (try omega)) _ | refine below_step ?_ (by assumption)))
  have HIN := Lib.hid (iInverseMachine_calls M hok ((w.alloc (.cells (mc M) 29)).alloc (.cells gr0 82)))
  have Hgl1 := Lib.hid gr0_one
  rcases isGr_bad hc h0 with ⟨hm, rfl⟩ | ⟨hm, hl, rfl⟩ | ⟨hm, hl, hk, rfl⟩
  · have hic : invCode M = 1 := by simp [invCode, hm]
    rw [hic] at HIN
    generalize gr0 = g0 at *
    go_enter Try.func56, Try.ntmps56
    go_wp2_with (first | (with_reducible show wpList _ _ _ _ _ _; refine wpList_load_blk rfl 29 (.tmp 3) rfl w.heap.size 0 rfl (mc M) _ (hB) 98 F2.out _ Try.underlying29 rfl size_mach ?_; rw [F1.out]) | (go_at_call 81; refine HIN.out.mono ?_; rintro e w1 ⟨rfl, hb1⟩; have hX1 : Blk (w1.alloc (.cells (mc zeroM) 29)) w1.heap.size (mc zeroM) 29 := Blk.new _ _ _; have hR1 := (hR.keptAll hb1).alloc (.cells (mc zeroM) 29); have hltR := (hR.keptAll hb1).lt; have hbw1 := below_alloc' (below_step hbw hb1) (.cells (mc zeroM) 29)) | (with_reducible show wpList _ _ _ _ _ _; refine wpList_store_row rfl 29 (.tmp 8) _ rfl w1.heap.size 0 (mc (invRes M)) rfl rfl _ _ hX1 (by rw [HsI.out, HsZ.out]; omega) (by rw [HsI.out]; exact size_mach) (mc_one _) _ Ho.out ?_; intro w2 hs2; have hR2 := hs2.keep (by omega) hR1; have hbw2 := hs2.below _ _ (by have := hb1.size; simp at this; omega) hbw1) | (with_reducible show wpList _ _ _ _ _ _; refine wpList_store_row rfl 82 (.tmp 6) _ rfl (w.heap.size + 1) 0 g0 rfl rfl _ _ hR2 (by rw [Hg0.out]; omega) (by rw [Hg0.out]; exact size_gr) Hgl1.out _ Hgo.out ?_; intro w3 hs3))
    exact bodyPost_cell1 rfl rfl hs3.blk Try.underlying82 rfl (by rw [Hg0.out]; exact size_gr) rfl ⟨rfl, hs3.below _ _ (by omega) hbw2⟩
  · obtain ⟨L, S, hg⟩ := Good.of hok hm
    have hic : invCode M = 0 := by simp [invCode, hm]
    rw [hic] at HIN
    have hcL := mc_L M
    rw [hg.hL] at hcL
    have HcL := Lib.hid hcL
    have HG := Lib.hid (fun W => isGraphLevel_calls L hg.L23 n W)
    rw [show (decide (0 ≤ n) && decide (n ≤ 7 - (L : Int))) = gLev M n by unfold gLev; rw [hg.hL], hl] at HG
    clear hcL
    generalize gr0 = g0 at *
    go_enter Try.func56, Try.ntmps56
    go_wp2_with (first | (with_reducible show wpList _ _ _ _ _ _; refine wpList_load_blk rfl 29 (.tmp 3) rfl w.heap.size 0 rfl (mc M) _ (hB) 98 F2.out _ Try.underlying29 rfl size_mach ?_; rw [F1.out]) | (go_at_call 81; refine HIN.out.mono ?_; rintro e w1 ⟨rfl, hb1⟩; have hX1 : Blk (w1.alloc (.cells (mc zeroM) 29)) w1.heap.size (mc zeroM) 29 := Blk.new _ _ _; have hR1 := (hR.keptAll hb1).alloc (.cells (mc zeroM) 29); have hM1 := (hB.keptAll hb1).alloc (.cells (mc zeroM) 29); have hltM := (hB.keptAll hb1).lt; have hltR := (hR.keptAll hb1).lt; have hbw1 := below_alloc' (below_step hbw hb1) (.cells (mc zeroM) 29)) | (with_reducible show wpList _ _ _ _ _ _; refine wpList_store_row rfl 29 (.tmp 8) _ rfl w1.heap.size 0 (mc (invRes M)) rfl rfl _ _ hX1 (by rw [HsI.out, HsZ.out]; omega) (by rw [HsI.out]; exact size_mach) (mc_one _) _ Ho.out ?_; intro w2 hs2; have hR2 := hs2.keep (by omega) hR1; have hM2 := hs2.keep (by omega) hM1; have cM2 := hM2.cell 0; rw [HcL.out] at cM2; have hbw2 := hs2.below _ _ (by have := hb1.size; simp at this; omega) hbw1) | (go_at_call 78; refine (HG.out _).mono ?_; rintro e w' ⟨rfl, rfl⟩) | (with_reducible show wpList _ _ _ _ _ _; refine wpList_store_row rfl 82 (.tmp 6) _ rfl (w.heap.size + 1) 0 g0 rfl rfl _ _ hR2 (by rw [Hg0.out]; omega) (by rw [Hg0.out]; exact size_gr) Hgl1.out _ Hgo.out ?_; intro w3 hs3))
    exact bodyPost_cell1 rfl rfl hs3.blk Try.underlying82 rfl (by rw [Hg0.out]; exact size_gr) rfl ⟨rfl, hs3.below _ _ (by omega) hbw2⟩
  · obtain ⟨L, S, hg⟩ := Good.of hok hm
    have hic : invCode M = 0 := by simp [invCode, hm]
    rw [hic] at HIN
    have hcL := mc_L M
    rw [hg.hL] at hcL
    have HcL := Lib.hid hcL
    have hn0 : 0 ≤ n ∧ n ≤ 5 := by
      have h2 := hg.L2
      unfold gLev at hl
      rw [hg.hL] at hl
      simp at hl
      omega
    obtain ⟨nn, rfl⟩ := Int.eq_ofNat_of_zero_le hn0.1
    have HG := Lib.hid (fun W => isGraphLevel_calls L hg.L23 nn W)
    rw [show (decide (0 ≤ (nn : Int)) && decide ((nn : Int) ≤ 7 - (L : Int))) = gLev M nn by unfold gLev; rw [hg.hL], hl] at HG
    have HSz := Lib.hid (fun W => levelSize_calls L nn hg.L3 (by omega) W)
    rw [hg.hL, Int.toNat_natCast, Int.toNat_natCast] at hk
    have hpw : pw L nn = ((L ^ nn : Nat) : Int) := rfl
    rw [hpw] at HSz
    have hN243 := pow_le L nn hg.L3 (by omega)
    generalize L ^ nn = N at *
    have Hk := Lib.hid hk
    obtain ⟨gn, hgn⟩ : ∃ x, gra N (.slice none 0 0) (.slice none 0 0) = x := ⟨_, rfl⟩
    have Hge : Hid (gn = gra N (.slice none 0 0) (.slice none 0 0)) := Lib.hid hgn.symm
    have HBu : Hid (Try.prog.built 82 [(0, .int .i64 N)] = some gn) := Lib.hid (by rw [← hgn]; exact built_gr1 N)
    clear hgn
    have Hgn : Hid (gn.size = 3) := Lib.hid (by rw [Hge.out]; rfl)
    have Hgn1 : Hid (gn.all (·.oneCell') = true) := Lib.hid (by rw [Hge.out]; exact gr_one N none none 0 0 0 0)
    have Hgno : Hid (over gr0 0 gn = gn) := Lib.hid (over_all _ _ (by rw [Hgn.out]; rfl))
    have Hgat : Hid (gn[0]? = some (.int .i64 N)) := Lib.hid (by rw [Hge.out]; rfl)
    obtain ⟨oa, ca, hve, _⟩ := hv.view
    subst hve
    have Hv := Lib.hid (hv.below hbw)
    clear hcL hk hn0 hpw
    clear Hge
    generalize gr0 = g0 at *
    go_enter Try.func56, Try.ntmps56
    go_wp2_with (first | (with_reducible show wpList _ _ _ _ _ _; refine wpList_load_blk rfl 29 (.tmp 3) rfl w.heap.size 0 rfl (mc M) _ (hB) 98 F2.out _ Try.underlying29 rfl size_mach ?_; rw [F1.out]) | (go_at_call 81; refine HIN.out.mono ?_; rintro e w1 ⟨rfl, hb1⟩; have hX1 : Blk (w1.alloc (.cells (mc zeroM) 29)) w1.heap.size (mc zeroM) 29 := Blk.new _ _ _; have hR1 := (hR.keptAll hb1).alloc (.cells (mc zeroM) 29); have hM1 := (hB.keptAll hb1).alloc (.cells (mc zeroM) 29); have hltM := (hB.keptAll hb1).lt; have hltR := (hR.keptAll hb1).lt; have hbw1 := below_alloc' (below_step hbw hb1) (.cells (mc zeroM) 29)) | (with_reducible show wpList _ _ _ _ _ _; refine wpList_store_row rfl 29 (.tmp 8) _ rfl w1.heap.size 0 (mc (invRes M)) rfl rfl _ _ hX1 (by rw [HsI.out, HsZ.out]; omega) (by rw [HsI.out]; exact size_mach) (mc_one _) _ Ho.out ?_; intro w2 hs2; have hR2 := hs2.keep (by omega) hR1; have hM2 := hs2.keep (by omega) hM1; have cM2 := hM2.cell 0; rw [HcL.out] at cM2; have hbw2 := hs2.below _ _ (by have := hb1.size; simp at this; omega) hbw1) | (go_at_call 78; refine (HG.out _).mono ?_; rintro e w' ⟨rfl, rfl⟩) | (go_at_call 63; refine (HSz.out _).mono ?_; rintro e w' ⟨rfl, rfl⟩; have hX4 : Blk (w2.alloc (.cells g0 82)) w2.heap.size g0 82 := Blk.new _ _ _) | (with_reducible show wpList _ _ _ _ _ _; refine wpList_build1 rfl 82 0 _ rfl (.int .i64 (N : Int)) rfl gn HBu.out ?_) | (with_reducible show wpList _ _ _ _ _ _; refine wpList_store_row rfl 82 (.tmp 10) _ rfl w2.heap.size 0 gn rfl rfl _ _ hX4 (by rw [Hg0.out, Hgn.out]; omega) (by rw [Hgn.out]; exact size_gr) Hgn1.out _ Hgno.out ?_; intro w4 hs4))
    have hltR2 := hR2.lt
    have hR4 := hs4.keep (by omega) (hR2.alloc (.cells g0 82))
    have hbw4 := hs4.below _ _ (by have := hbw2.size; omega) (below_alloc' hbw2 (.cells g0 82))
    have cG := hs4.blk.cell 0
    rw [Hgat.out] at cG
    have hs1' := hb1.size
    have Hv4 : Hid (SeesI w4 (.slice oa ks.length ca) ks) := Lib.hid (((((Hv.out.below hb1).below (w1 := w1.alloc (.cells (mc zeroM) 29)) (by (repeat (first | exact Below.refl _ _ | refine below_drew' ?_ | refine below_drewN' ?_ _ | refine below_alloc' ?_ _ | refine below_set' ?_ (by (try simp); (try omega)) _ | refine below_step ?_ (by assumption))))).other (fun q hq => hs2.other q (by have := (Hv.out.below hb1).lt q hq; omega))).below (w1 := w2.alloc (.cells g0 82)) (by (repeat (first | exact Below.refl _ _ | refine below_drew' ?_ | refine below_drewN' ?_ _ | refine below_alloc' ?_ _ | refine below_set' ?_ (by (try simp); (try omega)) _ | refine below_step ?_ (by assumption))))).other (fun q hq => hs4.other q (by have := (((Hv.out.below hb1).below (w1 := w1.alloc (.cells (mc zeroM) 29)) (by (repeat (first | exact Below.refl _ _ | refine below_drew' ?_ | refine below_drewN' ?_ _ | refine below_alloc' ?_ _ | refine below_set' ?_ (by (try simp); (try omega)) _ | refine below_step ?_ (by assumption))))).other (fun q hq => hs2.other q (by have := (Hv.out.below hb1).lt q hq; omega))).lt q hq; omega)))
    clear hX4 hs4 hR hR1 hM1 hM2 hbw1 hbw cM2 hB
    go_loop [40] (fun i => ∃ k : Nat, k ≤ ks.length ∧ i = .int .i64 k ∧ Hid (inK N (ks.take k) = true)) (fun i => ks.length - (intOf i).toNat)
    case atStart => exact ⟨0, by omega, rfl, Lib.hid (by simp [inK])⟩
    case round =>
      obtain ⟨k, hk, rfl, HE⟩ := hrel
      by_cases hlt : k < ks.length
      · have hki : (k : Int) < (ks.length : Int) := by omega
        obtain ⟨g, h1, _, c1⟩ := Hv4.out.at k hlt
        subst h1
        have HE2 : Hid (0 ≤ ks[k] ∧ ks[k] < (N : Int) → inK N (ks.take (k + 1)) = true) := Lib.hid (fun h => by
          have := HE.out
          unfold inK at *
          rw [List.take_succ_eq_append_getElem hlt, List.all_append, this]
          simp [h.1, h.2])
        generalize ks[k] = z at *
        by_cases hz0 : z < 0
        · go_wp2_with (with_reducible show wpList _ _ _ _ _ _; refine wpList_store_row rfl 82 (.tmp 6) _ rfl (w.heap.size + 1) 0 g0 rfl rfl _ _ hR4 (by rw [Hg0.out]; omega) (by rw [Hg0.out]; exact size_gr) Hgl1.out _ Hgo.out ?_; intro w3 hs3)
          exact bodyPost_cell1 rfl rfl hs3.blk Try.underlying82 rfl (by rw [Hg0.out]; exact size_gr) rfl ⟨rfl, hs3.below _ _ (by omega) hbw4⟩
        · have hz1 : 0 ≤ z := by omega
          by_cases hzN : (N : Int) ≤ z
          · go_wp2_with (with_reducible show wpList _ _ _ _ _ _; refine wpList_store_row rfl 82 (.tmp 6) _ rfl (w.heap.size + 1) 0 g0 rfl rfl _ _ hR4 (by rw [Hg0.out]; omega) (by rw [Hg0.out]; exact size_gr) Hgl1.out _ Hgo.out ?_; intro w3 hs3)
            exact bodyPost_cell1 rfl rfl hs3.blk Try.underlying82 rfl (by rw [Hg0.out]; exact size_gr) rfl ⟨rfl, hs3.below _ _ (by omega) hbw4⟩
          · have hzl : z < (N : Int) := by omega
            have HE3 := Lib.hid (HE2.out ⟨hz1, hzl⟩)
            go_wp2
            go_round
            case rel => exact ⟨k + 1, by omega, by go_num, HE3⟩
            case measure => simp [intOf] <;> omega
      · obtain rfl : k = ks.length := by omega
        have h1 := HE.out
        rw [List.take_length, Hk.out] at h1
        cases h1
end Go.Proofs.Yticnpajbefflbaa
