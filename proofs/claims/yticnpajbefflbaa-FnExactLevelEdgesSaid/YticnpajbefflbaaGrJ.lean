/- 'levelGraphOf': the program, where there is no error. -/
import Derived.Test.YticnpajbefflbaaGrI
namespace Go.Proofs.Yticnpajbefflbaa
open Go.RowKit

theorem inSt_nil (k : Nat) : ¬ inSt (.slice none 0 0) [] k := fun h => by
  rcases h with h | h
  · cases h
  · obtain ⟨u, hu, _⟩ := h
    cases hu

set_option maxRecDepth 100000 in
set_option maxHeartbeats 4000000 in
theorem levelGraphOf_good (M : Mach) (L S : Nat) (hg : Good M L S) (nn : Nat) (v : Value) (ks : List Int) (hks : ks.length ≤ 1000) (hc : gC M nn ks = 0) (w : World) (hv : SeesI w v ks) :
    Calls Try.prog 56 #[.agg (mc M), .int .i64 nn, v] w fun e w' => ∃ fv bv, e = .returned (.tuple #[.agg (gra ((L ^ nn : Nat) : Int) fv bv), .int .i64 0]) ∧ SeesSt w' fv (fwd M L nn S) ∧ SeesSt w' bv (bwd M L S nn S) ∧ Below w.heap.size w w' := by
  have hok := hg.ok
  have F1 : Hid (cut (mc M) 0 98 = mc M) := Lib.hid (cut_all _ _ (mc_size hok)); have F2 : Hid (0 + 98 ≤ (mc M).size) := Lib.hid (by rw [mc_size hok]; omega)
  have hzg := zero_gr
  have hzm := zero_mach
  have Hg0 : Hid (gr0.size = 3) := Lib.hid rfl
  have HsZ : Hid ((mc zeroM).size = 98) := Lib.hid (mc_size zeroM_ok)
  have HsI : Hid ((mc (invM M L S)).size = 98) := Lib.hid (mc_size hg.inv.ok)
  have FI1 : Hid (cut (mc (invM M L S)) 0 98 = mc (invM M L S)) := Lib.hid (cut_all _ _ HsI.out)
  have FI2 : Hid (0 + 98 ≤ (mc (invM M L S)).size) := Lib.hid (by rw [HsI.out]; omega)
  have Ho : Hid (over (mc zeroM) 0 (mc (invM M L S)) = mc (invM M L S)) := Lib.hid (over_all _ _ (by rw [HsI.out, HsZ.out]))
  have hB : Blk ((w.alloc (.cells (mc M) 29)).alloc (.cells gr0 82)) w.heap.size (mc M) 29 := (Blk.new w _ _).alloc _
  have hR : Blk ((w.alloc (.cells (mc M) 29)).alloc (.cells gr0 82)) (w.heap.size + 1) gr0 82 := Blk.new_at _ _ _ _ (by simp)
  have hbw : Below w.heap.size w ((w.alloc (.cells (mc M) 29)).alloc (.cells gr0 82)) := by (repeat (first | exact Below.refl _ _ | refine below_drew' ?_ | refine below_drewN' ?_ _ | refine below_alloc' ?_ _ | refine below_set' ?_ (by (try simp); (try omega)) _ | refine below_step ?_ (by assumption)))
  have HIN := Lib.hid (iInverseMachine_calls M hok ((w.alloc (.cells (mc M) 29)).alloc (.cells gr0 82)))
  have hm : isMach M = true := hg.isMach
  rw [show invRes M = invM M L S by unfold invRes; rw [if_pos hm, hg.hL, hg.hS]; rfl, show invCode M = 0 by simp [invCode, hm]] at HIN
  have hcL := mc_L M
  have hcS := mc_S M
  rw [hg.hL] at hcL
  rw [hg.hS] at hcS
  have HcL := Lib.hid hcL
  have HcS := Lib.hid hcS
  have hl : gLev M nn = true ∧ inK (M.L.toNat ^ (nn : Int).toNat) ks = true := by
    unfold gC at hc
    rw [if_pos hm] at hc
    have h2 : (gLev M nn && inK (M.L.toNat ^ (nn : Int).toNat) ks) = true := by
      cases h : (gLev M nn && inK (M.L.toNat ^ (nn : Int).toNat) ks) with
      | true => rfl
      | false => rw [h] at hc; simp at hc
    exact (Bool.and_eq_true _ _).mp h2
  obtain ⟨hl, hk⟩ := hl
  have hn0 : nn ≤ 5 := by
    have h2 := hg.L2
    unfold gLev at hl
    rw [hg.hL] at hl
    simp at hl
    omega
  have HG := Lib.hid (fun W => isGraphLevel_calls L hg.L23 nn W)
  rw [show (decide (0 ≤ (nn : Int)) && decide ((nn : Int) ≤ 7 - (L : Int))) = gLev M nn by unfold gLev; rw [hg.hL], hl] at HG
  have HSz := Lib.hid (fun W => levelSize_calls L nn hg.L3 (by omega) W)
  rw [hg.hL, Int.toNat_natCast, Int.toNat_natCast] at hk
  have hpw : pw L nn = ((L ^ nn : Nat) : Int) := rfl
  rw [hpw] at HSz
  have HLP := Lib.hid (fun q hq W => iLevel_good M L S hg q nn hq hn0 W)
  have HLI := Lib.hid (fun q hq W => iLevel_good (invM M L S) L S hg.inv q nn hq hn0 W)
  have hN243 := pow_le L nn hg.L3 (by omega)
  have hS16 := hg.S16
  have hS1 := hg.S1
  generalize L ^ nn = N at *
  have Hk := Lib.hid hk
  obtain ⟨gn, hgn⟩ : ∃ x, gra N (.slice none 0 0) (.slice none 0 0) = x := ⟨_, rfl⟩
  have Hge : Hid (gn = gra N (.slice none 0 0) (.slice none 0 0)) := Lib.hid hgn.symm
  have HBu : Hid (Try.prog.built 82 [(0, .int .i64 N)] = some gn) := Lib.hid (by rw [← hgn]; exact built_gr1 N)
  clear hgn
  have Hgn : Hid (gn.size = 3) := Lib.hid (by rw [Hge.out]; rfl)
  have Hgn1 : Hid (gn.all (·.oneCell') = true) := Lib.hid (by rw [Hge.out]; exact gr_one N none none 0 0 0 0)
  have Hgno : Hid (over gr0 0 gn = gn) := Lib.hid (over_all _ _ (by rw [Hgn.out]; rfl))
  have Hgat : Hid (gn[0]? = some (.int .i64 N)) := Lib.hid (by rw [Hge.out]; rfl)
  obtain ⟨oa, ca, hve, _⟩ := hv.view
  subst hve
  have Hv := Lib.hid (hv.below hbw)
  have Hg := Lib.hid hg
  clear hcL hcS hk hpw hc hl hm hv hg
  have Hgz : Hid (∀ N' f b, over gr0 0 (gra N' f b) = gra N' f b) := Lib.hid (fun N' f b => over_all _ _ rfl)
  generalize hg0 : gr0 = g0 at *
  clear hg0
  go_enter Try.func56, Try.ntmps56
  go_wp2_with (first | (with_reducible show wpList _ _ _ _ _ _; refine wpList_load_blk rfl 29 (.tmp 3) rfl w.heap.size 0 rfl (mc M) _ (hB) 98 F2.out _ Try.underlying29 rfl size_mach ?_; rw [F1.out]) | (go_at_call 81; refine HIN.out.mono ?_; rintro e w1 ⟨rfl, hb1⟩; have hX1 : Blk (w1.alloc (.cells (mc zeroM) 29)) w1.heap.size (mc zeroM) 29 := Blk.new _ _ _; have hR1 := (hR.keptAll hb1).alloc (.cells (mc zeroM) 29); have hM1 := (hB.keptAll hb1).alloc (.cells (mc zeroM) 29); have hltM := (hB.keptAll hb1).lt; have hltR := (hR.keptAll hb1).lt; have hbw1 := below_alloc' (below_step hbw hb1) (.cells (mc zeroM) 29)) | (with_reducible show wpList _ _ _ _ _ _; refine wpList_store_row rfl 29 (.tmp 8) _ rfl w1.heap.size 0 (mc (invM M L S)) rfl rfl _ _ hX1 (by rw [HsI.out, HsZ.out]; omega) (by rw [HsI.out]; exact size_mach) (mc_one _) _ Ho.out ?_; intro w2 hs2; have hR2 := hs2.keep (by omega) hR1; have hM2 := hs2.keep (by omega) hM1; have cM2 := hM2.cell 0; rw [HcL.out] at cM2; have hbw2 := hs2.below _ _ (by have := hb1.size; simp at this; omega) hbw1) | (go_at_call 78; refine (HG.out _).mono ?_; rintro e w' ⟨rfl, rfl⟩) | (go_at_call 63; refine (HSz.out _).mono ?_; rintro e w' ⟨rfl, rfl⟩; have hX4 : Blk (w2.alloc (.cells g0 82)) w2.heap.size g0 82 := Blk.new _ _ _) | (with_reducible show wpList _ _ _ _ _ _; refine wpList_build1 rfl 82 0 _ rfl (.int .i64 (N : Int)) rfl gn HBu.out ?_) | (with_reducible show wpList _ _ _ _ _ _; refine wpList_store_row rfl 82 (.tmp 10) _ rfl w2.heap.size 0 gn rfl rfl _ _ hX4 (by rw [Hg0.out, Hgn.out]; omega) (by rw [Hgn.out]; exact size_gr) Hgn1.out _ Hgno.out ?_; intro w4 hs4))
  have hltR2 := hR2.lt
  have hltM2 := hM2.lt
  have hI2 := hs2.blk
  have hltI2 := hI2.lt
  have hR4 := hs4.keep (by omega) (hR2.alloc (.cells g0 82))
  have hM4 := hs4.keep (by omega) (hM2.alloc (.cells g0 82))
  have hI4 := hs4.keep (by omega) (hI2.alloc (.cells g0 82))
  have hG4 := hs4.blk
  have hbw4 := hs4.below _ _ (by have := hbw2.size; omega) (below_alloc' hbw2 (.cells g0 82))
  have cG := hs4.blk.cell 0
  rw [Hgat.out] at cG
  have hs1' := hb1.size
  have hsz4 : w4.heap.size = w2.heap.size + 1 := by rw [hs4.size]; simp
  have Hv4 : Hid (SeesI w4 (.slice oa ks.length ca) ks) := Lib.hid (((((Hv.out.below hb1).below (w1 := w1.alloc (.cells (mc zeroM) 29)) (by (repeat (first | exact Below.refl _ _ | refine below_drew' ?_ | refine below_drewN' ?_ _ | refine below_alloc' ?_ _ | refine below_set' ?_ (by (try simp); (try omega)) _ | refine below_step ?_ (by assumption))))).other (fun q hq => hs2.other q (by have := (Hv.out.below hb1).lt q hq; omega))).below (w1 := w2.alloc (.cells g0 82)) (by (repeat (first | exact Below.refl _ _ | refine below_drew' ?_ | refine below_drewN' ?_ _ | refine below_alloc' ?_ _ | refine below_set' ?_ (by (try simp); (try omega)) _ | refine below_step ?_ (by assumption))))).other (fun q hq => hs4.other q (by have := (((Hv.out.below hb1).below (w1 := w1.alloc (.cells (mc zeroM) 29)) (by (repeat (first | exact Below.refl _ _ | refine below_drew' ?_ | refine below_drewN' ?_ _ | refine below_alloc' ?_ _ | refine below_set' ?_ (by (try simp); (try omega)) _ | refine below_step ?_ (by assumption))))).other (fun q hq => hs2.other q (by have := (Hv.out.below hb1).lt q hq; omega))).lt q hq; omega)))
  clear hX4 hs4 hR hR1 hM1 hM2 hbw1 hbw cM2 hB hI2 hR2 hs2 hX1
  go_loop [40] (fun i => ∃ k : Nat, k ≤ ks.length ∧ i = .int .i64 k) (fun i => ks.length - (intOf i).toNat)
  case atStart => exact ⟨0, by omega, rfl⟩
  case round =>
    obtain ⟨k, hk, rfl⟩ := hrel
    by_cases hlt : k < ks.length
    · have hki : (k : Int) < (ks.length : Int) := by omega
      obtain ⟨g, h1, _, c1⟩ := Hv4.out.at k hlt
      subst h1
      have hz := (List.all_eq_true.1 Hk.out) _ (List.getElem_mem hlt)
      generalize ks[k] = z at *
      simp only [Bool.and_eq_true, decide_eq_true_eq] at hz
      obtain ⟨hz0, hzl⟩ := hz
      have hzn : ¬ z < 0 := by omega
      have hzN : ¬ (N : Int) ≤ z := by omega
      go_wp2
      go_round
      case rel => exact ⟨k + 1, by omega, by go_num⟩
      case measure => simp [intOf] <;> omega
    · obtain rfl : k = ks.length := by omega
      clear cG Hv4
      have cS := hM4.cell 1
      rw [HcS.out] at cS
      go_wp2
      have Hg1 : Hid (∀ f b, (gra N f b)[1]? = some f ∧ (gra N f b)[2]? = some b) := Lib.hid (fun f b => ⟨rfl, rfl⟩)
      have Hgs1 : Hid (∀ f b u, (gra N f b).setIfInBounds 1 u = gra N u b) := Lib.hid (fun _ _ _ => rfl)
      have Hgs2 : Hid (∀ f b u, (gra N f b).setIfInBounds 2 u = gra N f u) := Lib.hid (fun _ _ _ => rfl)
      have hGn : Blk w4 w2.heap.size (gra N (.slice none 0 0) (.slice none 0 0)) 82 := by rw [← Hge.out]; exact hG4
      go_loopw [56] (fun i wr => ∃ (k : Nat) (fv bv : Value) (us vs : List Value), k ≤ S ∧ i = .int .i64 k ∧ Blk wr w.heap.size (mc M) 29 ∧ Blk wr (w.heap.size + 1) g0 82 ∧ Blk wr w1.heap.size (mc (invM M L S)) 29 ∧ Blk wr w2.heap.size (gra N fv bv) 82 ∧ OwnSt wr (w2.heap.size + 1) fv us (fwd M L nn k) ∧ OwnSt wr (w2.heap.size + 1) bv vs (bwd M L S nn k) ∧ Hid (∀ q, inSt fv us q → inSt bv vs q → False) ∧ w2.heap.size + 1 ≤ wr.heap.size ∧ Below w.heap.size w wr) (fun i _ => S - (intOf i).toNat)
      case atStart => exact ⟨0, _, _, [], [], by omega, rfl, hM4, hR4, hI4, hGn, OwnSt.nil _ _, OwnSt.nil _ _, Lib.hid (fun q h _ => inSt_nil q h), by omega, hbw4⟩
      case round =>
        clear hM4 hR4 hI4 hGn hG4 hbw4 cS hsz4
        obtain ⟨k, fv, bv, us, vs, hk, rfl, hM, hR, hI, hG, hF, hB, Hx, hge, hbw⟩ := hrel
        by_cases hlt : k < S
        · have hki : (k : Int) < (S : Int) := by omega
          have hk16 : (k : Int) < 16 := by omega
          have HF1 := Lib.hid (fwd_succ M L nn k)
          have HB1 := Lib.hid (bwd_succ M L S nn k)
          have HFl := Lib.hid (fwd_len M L nn k)
          have HBl := Lib.hid (bwd_len M L S nn k)
          have HL1 := Lib.hid (HLP.out k hlt)
          have HL2 := Lib.hid (HLI.out k hlt)
          generalize fwd M L nn k = F at *
          generalize bwd M L S nn k = G at *
          generalize permL M L k nn = P1 at *
          generalize permL (invM M L S) L k nn = P2 at *
          obtain ⟨of, cf, rfl⟩ := hF.view
          obtain ⟨ob, cb, rfl⟩ := hB.view
          have hltM := hM.lt
          have hltR := hR.lt
          have hltI := hI.lt
          have hltG := hG.lt
          have HFlt := Lib.hid hF.lt
          have HBlt := Lib.hid hB.lt
          have t1 : Hid True := Lib.hid trivial
          have t2 : Hid True := Lib.hid trivial
          go_wp2_with (first | (with_reducible show wpList _ _ _ _ _ _; refine wpList_load_blk rfl 29 (.tmp 3) rfl w.heap.size 0 rfl (mc M) _ (hM) 98 F2.out _ Try.underlying29 rfl size_mach ?_; rw [F1.out]) | (with_reducible show wpList _ _ _ _ _ _; refine wpList_load_blk rfl 29 (.tmp 8) rfl w1.heap.size 0 rfl (mc (invM M L S)) _ hI5 98 FI2.out _ Try.underlying29 rfl size_mach ?_; rw [FI1.out]) | (go_at_call 77; have q1 := t1; refine (HL1.out _).mono ?_; rintro e w5 ⟨u1, rfl, hO1, hb5⟩; obtain ⟨o1, c1, rfl, hq1⟩ := hO1.view; clear hq1 t1 q1; have hI5 := hI.keptAll hb5) | (go_at_call 77; have q2 := t2; refine (HL2.out _).mono ?_; rintro e w6 ⟨u2, rfl, hO2, hb6⟩; obtain ⟨o2, c2, rfl, hq2⟩ := hO2.view; clear hq2 t2 q2; have hs5 := hb5.size; have hs6 := hb6.size; have hG6 := (hG.keptAll hb5).keptAll hb6; have cG1 := hG6.cell 1; rw [(Hg1.out _ _).1] at cG1; have hF6 := (((hF.below hb5).below hb6).below (w1 := w6.alloc (.cells #[.int .i64 ((k : Int) + 1), .slice o1 P1.length c1] 86)) (by (repeat (first | exact Below.refl _ _ | refine below_drew' ?_ | refine below_drewN' ?_ _ | refine below_alloc' ?_ _ | refine below_set' ?_ (by (try simp); (try omega)) _ | refine below_step ?_ (by assumption))))); have hO16 := ((hO1.below hb6).below (w1 := w6.alloc (.cells #[.int .i64 ((k : Int) + 1), .slice o1 P1.length c1] 86)) (by (repeat (first | exact Below.refl _ _ | refine below_drew' ?_ | refine below_drewN' ?_ _ | refine below_alloc' ?_ _ | refine below_set' ?_ (by (try simp); (try omega)) _ | refine below_step ?_ (by assumption))))); have HO1lt := Lib.hid (fun q hq => World.ownsRow.lt hO1 q hq); have HO2lt := Lib.hid (fun q hq => World.ownsRow.lt hO2 q hq); have hbw6 := below_alloc' (below_step (below_step hbw hb5) hb6) (.cells #[.int .i64 ((k : Int) + 1), .slice o1 P1.length c1] 86)) | (at_builtin; refine wpList_push_step rfl (.tmp 74) (.tmp 79) rfl (w2.heap.size + 1) _ us F rfl hF6 w6.heap.size 1 ((k : Int) + 1) (.slice o1 P1.length c1) P1 rfl (Blk.new w6 _ _) (hO16.base_le' (by omega)) (fun q h1 h2 => by have q1 := (HO1lt.out q h1).1; have q2 := (HFlt.out q (.inl h2)).2; omega) (by have := HFl.out; omega) (by simp; omega) ?_; intro v7 w7 hF7 hb7 hsp7 hat7; obtain ⟨o7, c7, e7⟩ := hF7.view; rw [List.length_append, List.length_singleton] at e7; subst e7; have hs7 := hb7.size; simp at hs7; have hG7 : Blk w7 w2.heap.size (gra N (.slice of F.length cf) (.slice ob G.length cb)) 82 := (hsp7 _ (by simp; omega) (fun e => by have := (HFlt.out _ (.inl e.symm)).1; omega)).trans (hG6.alloc _); have cG7 := hG7.cell; have fG7 := hG7.free; have hG8 := hG7.set 1 (.slice o7 (F.length + 1) c7); rw [Hgs1.out] at hG8; have cG8 := hG8.cell 2; rw [(Hg1.out _ _).2] at cG8; have hF8 := hF7.same (w1 := w7.setCell ⟨w2.heap.size, 1, none⟩ (.slice o7 (F.length + 1) c7)) (fun q hq => Below.heap_setCell _ _ _ q (by have := (hF7.lt q hq).1; show q ≠ w2.heap.size; omega)); have hB6 := (((hB.below hb5).below hb6).below (w1 := w6.alloc (.cells #[.int .i64 ((k : Int) + 1), .slice o1 P1.length c1] 86)) (by (repeat (first | exact Below.refl _ _ | refine below_drew' ?_ | refine below_drewN' ?_ _ | refine below_alloc' ?_ _ | refine below_set' ?_ (by (try simp); (try omega)) _ | refine below_step ?_ (by assumption))))); have hB8 : OwnSt (w7.setCell ⟨w2.heap.size, 1, none⟩ (.slice o7 (F.length + 1) c7)) (w2.heap.size + 1) (.slice ob G.length cb) vs G := hB6.same (fun q hq => (Below.heap_setCell _ _ _ q (by have := (hB6.lt q hq).1; show q ≠ w2.heap.size; omega)).trans (hsp7 q (hB6.lt q hq).2 (fun e => Hx.out q (.inl e.symm) hq))); have hO26 := (hO2.below (w1 := w6.alloc (.cells #[.int .i64 ((k : Int) + 1), .slice o1 P1.length c1] 86)) (by (repeat (first | exact Below.refl _ _ | refine below_drew' ?_ | refine below_drewN' ?_ _ | refine below_alloc' ?_ _ | refine below_set' ?_ (by (try simp); (try omega)) _ | refine below_step ?_ (by assumption))))); have hO28 : OwnI (w7.setCell ⟨w2.heap.size, 1, none⟩ (.slice o7 (F.length + 1) c7)) w5.heap.size (.slice o2 P2.length c2) P2 := row_same hO26 (fun q hq => (Below.heap_setCell _ _ _ q (by have := (HO2lt.out q hq).1; show q ≠ w2.heap.size; omega)).trans (hsp7 q (World.ownsRow.lt hO26 q hq).2 (fun e => by have q1 := (HO2lt.out q hq).1; have q2 := (HFlt.out q (.inl e.symm)).2; omega))); have hal8 : Below (w7.setCell ⟨w2.heap.size, 1, none⟩ (.slice o7 (F.length + 1) c7)).heap.size (w7.setCell ⟨w2.heap.size, 1, none⟩ (.slice o7 (F.length + 1) c7)) ((w7.setCell ⟨w2.heap.size, 1, none⟩ (.slice o7 (F.length + 1) c7)).alloc (.cells #[.int .i64 (-(k : Int) - 1), .slice o2 P2.length c2] 86)) := (by (repeat (first | exact Below.refl _ _ | refine below_drew' ?_ | refine below_drewN' ?_ _ | refine below_alloc' ?_ _ | refine below_set' ?_ (by (try simp); (try omega)) _ | refine below_step ?_ (by assumption)))); have hs8 : (w7.setCell ⟨w2.heap.size, 1, none⟩ (.slice o7 (F.length + 1) c7)).heap.size = w7.heap.size := (by simp); have hB9 := hB8.below hal8; have hO29 := hO28.below hal8; have hF9 := hF8.below hal8; have hG9 := hG8.keptAll hal8; have hs9 : ((w7.setCell ⟨w2.heap.size, 1, none⟩ (.slice o7 (F.length + 1) c7)).alloc (.cells #[.int .i64 (-(k : Int) - 1), .slice o2 P2.length c2] 86)).heap.size = w7.heap.size + 1 := (by simp); have hnew9 := Blk.new (w7.setCell ⟨w2.heap.size, 1, none⟩ (.slice o7 (F.length + 1) c7)) #[.int .i64 (-(k : Int) - 1), .slice o2 P2.length c2] 86; rw [hs8] at hnew9) | (at_builtin; refine wpList_push_step rfl (.tmp 83) (.tmp 89) rfl (w2.heap.size + 1) _ vs G rfl hB9 w7.heap.size 1 (-(k : Int) - 1) (.slice o2 P2.length c2) P2 rfl hnew9 (hO29.base_le' (by omega)) (fun q h1 h2 => by have q1 := (HO2lt.out q h1).1; have q2 := (HBlt.out q (.inl h2)).2; omega) (by have := HBl.out; omega) (by omega) ?_; intro v9 w9 hB10 hb10 hsp10 hat10; obtain ⟨o9, c9, e9⟩ := hB10.view; rw [List.length_append, List.length_singleton] at e9; subst e9; have hs10 := hb10.size; rw [hs9] at hs10; have hG10 : Blk w9 w2.heap.size (gra N (.slice o7 (F.length + 1) c7) (.slice ob G.length cb)) 82 := (hsp10 _ (by rw [hs9]; omega) (fun e => by have := (HBlt.out _ (.inl e.symm)).1; omega)).trans hG9; have cG10 := hG10.cell; have fG10 := hG10.free))
          have hG11 := hG10.set 2 (.slice o9 (G.length + 1) c9)
          rw [Hgs2.out] at hG11
          have hs7' : w6.heap.size + 1 ≤ w7.heap.size := by have := hb7.size; simp at this; exact this
          have HF' : Hid (∀ q, inSt (.slice o7 (F.length + 1) c7) (us ++ [.slice o1 P1.length c1]) q → inSt (.slice of F.length cf) us q ∨ (wr.heap.size ≤ q ∧ q < w5.heap.size) ∨ q = w6.heap.size + 1) := Lib.hid (fun q hq => by
            rcases inSt_push (v := .slice of F.length cf) hq with h | h | h
            · rcases hat7 with e | e
              · exact .inl (.inl (e ▸ h))
              · rw [e] at h; cases h; exact .inr (.inr (by simp))
            · exact .inl h
            · exact .inr (.inl ⟨(HO1lt.out q h).1, (HO1lt.out q h).2⟩))
          have HB' : Hid (∀ q, inSt (.slice o9 (G.length + 1) c9) (vs ++ [.slice o2 P2.length c2]) q → inSt (.slice ob G.length cb) vs q ∨ (w5.heap.size ≤ q ∧ q < w6.heap.size) ∨ q = w7.heap.size + 1) := Lib.hid (fun q hq => by
            rcases inSt_push (v := .slice ob G.length cb) hq with h | h | h
            · rcases hat10 with e | e
              · exact .inl (.inl (e ▸ h))
              · rw [e, hs9] at h; cases h; exact .inr (.inr rfl)
            · exact .inl h
            · exact .inr (.inl ⟨(HO2lt.out q h).1, (HO2lt.out q h).2⟩))
          have Hx' : Hid (∀ q, inSt (.slice o7 (F.length + 1) c7) (us ++ [.slice o1 P1.length c1]) q → inSt (.slice o9 (G.length + 1) c9) (vs ++ [.slice o2 P2.length c2]) q → False) := Lib.hid (fun q h1 h2 => by
            rcases HF'.out q h1 with a | a | a <;> rcases HB'.out q h2 with b | b | b
            · exact Hx.out q a b
            · have := (HFlt.out q a).2; omega
            · have := (HFlt.out q a).2; omega
            · have := (HBlt.out q b).2; omega
            · omega
            · omega
            · have := (HBlt.out q b).2; omega
            · omega
            · omega)
          have hF11 : OwnSt (w9.setCell ⟨w2.heap.size, 2, none⟩ (.slice o9 (G.length + 1) c9)) (w2.heap.size + 1) (.slice o7 (F.length + 1) c7) (us ++ [.slice o1 P1.length c1]) (F ++ [((k : Int) + 1, P1)]) := hF9.same (fun q hq => (Below.heap_setCell _ _ _ q (by have := (hF9.lt q hq).1; show q ≠ w2.heap.size; omega)).trans (hsp10 q (hF9.lt q hq).2 (fun e => by
            rcases HF'.out q hq with a | a | a
            · exact Hx.out q a (.inl e.symm)
            · have := (HBlt.out q (.inl e.symm)).2; omega
            · have := (HBlt.out q (.inl e.symm)).2; omega)))
          have hB11 : OwnSt (w9.setCell ⟨w2.heap.size, 2, none⟩ (.slice o9 (G.length + 1) c9)) (w2.heap.size + 1) (.slice o9 (G.length + 1) c9) (vs ++ [.slice o2 P2.length c2]) (G ++ [(-(k : Int) - 1, P2)]) := hB10.same (fun q hq => Below.heap_setCell _ _ _ q (by have := (hB10.lt q hq).1; show q ≠ w2.heap.size; omega))
          have hM7 := (((((hM.keptAll hb5).keptAll hb6).alloc (.cells #[.int .i64 ((k : Int) + 1), .slice o1 P1.length c1] 86)).kept hb7 (by omega)).setOther w2.heap.size 1 (.slice o7 (F.length + 1) c7) (by omega)).alloc (.cells #[.int .i64 (-(k : Int) - 1), .slice o2 P2.length c2] 86)
          have hR7 := (((((hR.keptAll hb5).keptAll hb6).alloc (.cells #[.int .i64 ((k : Int) + 1), .slice o1 P1.length c1] 86)).kept hb7 (by omega)).setOther w2.heap.size 1 (.slice o7 (F.length + 1) c7) (by omega)).alloc (.cells #[.int .i64 (-(k : Int) - 1), .slice o2 P2.length c2] 86)
          have hI7 := ((((hI5.keptAll hb6).alloc (.cells #[.int .i64 ((k : Int) + 1), .slice o1 P1.length c1] 86)).kept hb7 (by omega)).setOther w2.heap.size 1 (.slice o7 (F.length + 1) c7) (by omega)).alloc (.cells #[.int .i64 (-(k : Int) - 1), .slice o2 P2.length c2] 86)
          have hM11 := (hM7.kept hb10 (by omega)).setOther w2.heap.size 2 (.slice o9 (G.length + 1) c9) (by omega)
          have hR11 := (hR7.kept hb10 (by omega)).setOther w2.heap.size 2 (.slice o9 (G.length + 1) c9) (by omega)
          have hI11 := (hI7.kept hb10 (by omega)).setOther w2.heap.size 2 (.slice o9 (G.length + 1) c9) (by omega)
          have hbw7 := below_set' (o := 1) (hbw6.trans (below_le hb7 (by omega))) (b := w2.heap.size) (by omega) (.slice o7 (F.length + 1) c7)
          have hbw11 := below_set' (o := 2) ((below_alloc' hbw7 (.cells #[.int .i64 (-(k : Int) - 1), .slice o2 P2.length c2] 86)).trans (below_le hb10 (by omega))) (b := w2.heap.size) (by omega) (.slice o9 (G.length + 1) c9)
          go_roundw
          case rel => exact ⟨k + 1, (.slice o7 (F.length + 1) c7), (.slice o9 (G.length + 1) c9), _, _, by omega, by go_num, hM11, hR11, hI11, hG11, by rw [HF1.out]; exact hF11, by rw [HB1.out]; exact hB11, Hx', by simp; omega, hbw11⟩
          case measure => simp [intOf] <;> omega
        · obtain rfl : k = S := by omega
          have Hgo : Hid (over g0 0 (gra N fv bv) = gra N fv bv) := Lib.hid (Hgz.out N fv bv)
          have Hgc : Hid (cut (gra N fv bv) 0 3 = gra N fv bv) := Lib.hid (cut_all _ _ rfl)
          have Hgs : Hid ((gra N fv bv).size = 3) := Lib.hid rfl
          have Hgo1 : Hid ((gra N fv bv).all (·.oneCell') = true) := Lib.hid (by
            obtain ⟨of, cf, rfl⟩ := hF.view
            obtain ⟨ob, cb, rfl⟩ := hB.view
            exact gr_one _ _ _ _ _ _ _)
          have HFlt := Lib.hid hF.lt
          have HBlt := Lib.hid hB.lt
          go_wp2_with (first | (with_reducible show wpList _ _ _ _ _ _; refine wpList_load_blk rfl 82 (.tmp 10) rfl w2.heap.size 0 rfl (gra N fv bv) _ hG 3 (by rw [Hgs.out]; omega) _ Try.underlying82 rfl size_gr ?_; rw [Hgc.out]) | (with_reducible show wpList _ _ _ _ _ _; refine wpList_store_row rfl 82 (.tmp 6) _ rfl (w.heap.size + 1) 0 (gra N fv bv) rfl rfl _ _ hR (by rw [Hg0.out, Hgs.out]; omega) (by rw [Hgs.out]; exact size_gr) Hgo1.out _ Hgo.out ?_; intro w8 hs8))
          exact bodyPost_cell1 rfl rfl hs8.blk Try.underlying82 rfl (by rw [Hgs.out]; exact size_gr) rfl ⟨fv, bv, rfl, (hF.same (fun q hq => hs8.other q (by have := (HFlt.out q hq).1; omega))).sees (by rw [fwd_len]; omega), (hB.same (fun q hq => hs8.other q (by have := (HBlt.out q hq).1; omega))).sees (by rw [bwd_len]; omega), hs8.below _ _ (by omega) hbw⟩
end Go.Proofs.Yticnpajbefflbaa
