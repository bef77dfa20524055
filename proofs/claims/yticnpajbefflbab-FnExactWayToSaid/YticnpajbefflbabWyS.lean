/- 'l05Way', 'WayTo': the model. -/
import Derived.Test.YticnpajbefflbabWyI
import Derived.Test.YticnpajbefflbabDsS
namespace Go.Proofs.Yticnpajbefflbab
open Go.RowKit

theorem tre_slices (oa ob oc od : Option Addr) (na nb nc nd ca cb cc cd : Nat) : (tre (.slice oa na ca) (.slice ob nb cb) (.slice oc nc cc) (.slice od nd cd)).all (·.oneCell') = true := by simp [tre, Value.oneCell']
theorem SeesI.cellAt {w : World} {g c : Nat} {zs : List Int} (h : SeesI w (.slice (some ⟨g, 0, none⟩) zs.length c) zs) (i : Nat) (hi : i < zs.length) : w.cell? ⟨g, i, none⟩ = some (.int .i64 zs[i]) := by
  obtain ⟨g', h1, _, c1⟩ := h.at i hi
  have e : g = g' := by simpa using h1
  rw [e]
  exact c1
theorem SeesI.open {w : World} {v : Value} {zs : List Int} (h : SeesI w v zs) (h0 : 0 < zs.length) : ∃ g c, v = .slice (some ⟨g, 0, none⟩) zs.length c := by
  obtain ⟨o, c, rfl, _⟩ := h.view
  obtain ⟨g, rfl, _, _⟩ := h.at 0 h0
  exact ⟨g, c, rfl⟩
theorem mapL_met {N : Nat} {T : List Ent} (h : TOk N T) (f : Nat → Int) (z : Int) (i : Nat) (hi : i < T.length) (hx : (entAt T i).word < (mapL N T f z).length) : (mapL N T f z)[(entAt T i).word] = f i := by
  rw [mapL_at, if_pos (show (entAt T i).word ∈ wds T from List.mem_map.2 ⟨_, entAt_mem hi, rfl⟩), idx_at h i hi]
theorem stp_met {N : Nat} {T : List Ent} (h : TOk N T) (i : Nat) (hi : i < T.length) (hx : (entAt T i).word < (stpL N T).length) : (stpL N T)[(entAt T i).word] = (entAt T i).step := by
  have e : ∀ hx', (mapL N T (stepF T) 0)[(entAt T i).word]'hx' = stepF T i := fun hx' => mapL_met h _ _ i hi hx'
  exact e hx
theorem from_met {N : Nat} {T : List Ent} (h : TOk N T) (i : Nat) (hi : i < T.length) (hx : (entAt T i).word < (fromL N T).length) : (fromL N T)[(entAt T i).word] = fromF T i := by
  have e : ∀ hx', (mapL N T (fromF T) 0)[(entAt T i).word]'hx' = fromF T i := fun hx' => mapL_met h _ _ i hi hx'
  exact e hx
theorem word_ne {N : Nat} {T : List Ent} (h : TOk N T) (j : Nat) (h0 : j ≠ 0) (hj : j < T.length) : (entAt T j).word ≠ (entAt T 0).word := by
  intro e
  have h1 := idx_at h j hj
  have h2 := idx_at h 0 (by omega)
  rw [e, h2] at h1
  exact h0 h1.symm

set_option maxRecDepth 100000 in
set_option maxHeartbeats 2000000 in
theorem l05Way_calls (N : Nat) (T : List Ent) (hT : TOk N T) (hN : N ≤ 1000) (i : Nat) (hi : i < T.length) (gq gf gs cq cf cs : Nat) (dv : Value) (w : World) (hq : SeesI w (.slice (some ⟨gq, 0, none⟩) (wdsI T).length cq) (wdsI T)) (hf : SeesI w (.slice (some ⟨gf, 0, none⟩) (fromL N T).length cf) (fromL N T)) (hs : SeesI w (.slice (some ⟨gs, 0, none⟩) (stpL N T).length cs) (stpL N T)) :
    Calls Try.prog 37 #[.agg (tre (.slice (some ⟨gq, 0, none⟩) (wdsI T).length cq) (.slice (some ⟨gf, 0, none⟩) (fromL N T).length cf) (.slice (some ⟨gs, 0, none⟩) (stpL N T).length cs) dv), .int .i64 ((entAt T i).word : Int)] w fun e w' => ∃ v, e = .returned v ∧ OwnI w' w.heap.size v (wayL T i) ∧ Below w.heap.size w w' := by
  have hTN := hT.len
  have H0 : Hid (∀ q f s d, (tre q f s d)[0]? = some q) := Lib.hid (fun _ _ _ _ => rfl)
  have H1 : Hid (∀ q f s d, (tre q f s d)[1]? = some f) := Lib.hid (fun _ _ _ _ => rfl)
  have H2 : Hid (∀ q f s d, (tre q f s d)[2]? = some s) := Lib.hid (fun _ _ _ _ => rfl)
  have Hlq := Lib.hid (wdsI_len T)
  have Hlf := Lib.hid (fromL_len N T)
  have Hls := Lib.hid (stpL_len N T)
  have Hwd := Lib.hid (fun j hj => wdsI_at T j hj)
  have Hst := Lib.hid (fun j (hj : j < T.length) hx => stp_met hT j hj hx)
  have Hfr := Lib.hid (fun j (hj : j < T.length) hx => from_met hT j hj hx)
  have Hlt := Lib.hid (fun j (hj : j < T.length) => hT.lt _ (entAt_mem hj))
  have HOK := Lib.hid hT
  have Hq := Lib.hid hq
  have Hf := Lib.hid hf
  have Hs := Lib.hid hs
  have hbw0 : Below w.heap.size w ((w.alloc (.cells (tre (.slice (some ⟨gq, 0, none⟩) (wdsI T).length cq) (.slice (some ⟨gf, 0, none⟩) (fromL N T).length cf) (.slice (some ⟨gs, 0, none⟩) (stpL N T).length cs) dv) 59)).alloc (.cells #[] 2)) := by (repeat (first | exact Below.refl _ _ | refine below_drew' ?_ | refine below_drewN' ?_ _ | refine below_alloc' ?_ _ | refine below_set' ?_ (by (try simp); (try omega)) _ | refine below_step ?_ (by assumption)))
  have hB0 : Blk ((w.alloc (.cells (tre (.slice (some ⟨gq, 0, none⟩) (wdsI T).length cq) (.slice (some ⟨gf, 0, none⟩) (fromL N T).length cf) (.slice (some ⟨gs, 0, none⟩) (stpL N T).length cs) dv) 59)).alloc (.cells #[] 2)) w.heap.size (tre (.slice (some ⟨gq, 0, none⟩) (wdsI T).length cq) (.slice (some ⟨gf, 0, none⟩) (fromL N T).length cf) (.slice (some ⟨gs, 0, none⟩) (stpL N T).length cs) dv) 59 := (Blk.new _ _ _).alloc _
  have hO0 : OwnI ((w.alloc (.cells (tre (.slice (some ⟨gq, 0, none⟩) (wdsI T).length cq) (.slice (some ⟨gf, 0, none⟩) (fromL N T).length cf) (.slice (some ⟨gs, 0, none⟩) (stpL N T).length cs) dv) 59)).alloc (.cells #[] 2)) (w.heap.size + 1) (.slice (some ⟨w.heap.size + 1, 0, none⟩) 0 0) [] := by
    have := OwnI.empty (w.alloc (.cells (tre (.slice (some ⟨gq, 0, none⟩) (wdsI T).length cq) (.slice (some ⟨gf, 0, none⟩) (fromL N T).length cf) (.slice (some ⟨gs, 0, none⟩) (stpL N T).length cs) dv) 59)) (w.heap.size + 1) 0 #[] (by simp) (by unfold maxLen; omega) rfl
    simpa using this
  clear hq hf hs hT
  go_enter Try.func37, Try.ntmps37
  go_wp2
  go_loopg [1, 5] i (fun gk lv ov wr => ∃ (j : Nat) (acc : List Int) (v0 : Value), j ≤ gk ∧ j < T.length ∧ lv = .int .i64 ((entAt T j).word : Int) ∧ v0 = ov ∧ OwnI wr (w.heap.size + 1) v0 acc ∧ acc.length + j ≤ i ∧ Hid (wayL T i = wayL T j ++ acc) ∧ Blk wr w.heap.size (tre (.slice (some ⟨gq, 0, none⟩) (wdsI T).length cq) (.slice (some ⟨gf, 0, none⟩) (fromL N T).length cf) (.slice (some ⟨gs, 0, none⟩) (stpL N T).length cs) dv) 59 ∧ w.heap.size + 1 ≤ wr.heap.size ∧ Below w.heap.size w wr)
  case atStart => exact ⟨i, [], _, Nat.le_refl _, hi, rfl, rfl, hO0, by simp, Lib.hid (by simp), hB0, by simp, hbw0⟩
  case round =>
    clear hO0 hB0 hbw0
    obtain ⟨j, acc, v0, hjk, hj, rfl, rfl, hO, hal, HW, hB, hge, hbw⟩ := hrel
    obtain ⟨w4, rfl⟩ : ∃ x, x = wr := ⟨_, rfl⟩
    have c0 := hB.cell 0
    have c1 := hB.cell 1
    have c2 := hB.cell 2
    rw [H0.out] at c0
    rw [H1.out] at c1
    rw [H2.out] at c2
    have hq0 : 0 < (wdsI T).length := by rw [Hlq.out]; omega
    have hq0i : (0 : Int) < ((wdsI T).length : Int) := by omega
    have cq0 := (Hq.out.below hbw).cellAt 0 hq0
    rw [Hwd.out 0 hq0] at cq0
    by_cases h0 : j = 0
    · subst h0
      have HW2 : Hid (wayL T i = acc) := Lib.hid (by rw [HW.out, wayL_zero]; rfl)
      have hne : (((entAt T 0).word : Int) != ((entAt T 0).word : Int)) = false := by simp
      clear HW
      go_wp2
      go_ret
      exact ⟨_, rfl, by rw [HW2.out]; exact hO.base_le' (by omega), hbw⟩
    · have hp := HOK.out.par j (by omega) hj
      have hne : (((entAt T j).word : Int) != ((entAt T 0).word : Int)) = true := by
        have := word_ne HOK.out j h0 hj
        rw [bne_iff_ne]; omega
      have hwl := Hlt.out j hj
      have hxs : (entAt T j).word < (stpL N T).length := by rw [Hls.out]; exact hwl
      have hxf : (entAt T j).word < (fromL N T).length := by rw [Hlf.out]; exact hwl
      have hxsi : ((entAt T j).word : Int) < ((stpL N T).length : Int) := by omega
      have hxfi : ((entAt T j).word : Int) < ((fromL N T).length : Int) := by omega
      have cs1 := (Hs.out.below hbw).cellAt _ hxs
      rw [Hst.out j hj hxs] at cs1
      have HF7 : Hid (∀ W, Below w.heap.size w W → W.cell? ⟨gf, (entAt T j).word, none⟩ = some (.int .i64 ((entAt T (entAt T j).par).word : Int))) := Lib.hid (fun W hW => by
        have := (Hf.out.below hW).cellAt _ hxf
        rw [Hfr.out j hj hxf] at this
        unfold fromF at this
        rwa [if_neg h0] at this)
      have HW2 : Hid (wayL T i = wayL T (entAt T j).par ++ ([(entAt T j).step] ++ acc)) := Lib.hid (by rw [HW.out, wayL_next HOK.out j h0 hj]; simp)
      have hpT : (entAt T j).par < T.length := by omega
      have hOa : OwnI (w4.alloc (.cells #[.int .i64 (entAt T j).step] 2)) w4.heap.size (.slice (some ⟨w4.heap.size, 0, none⟩) 1 1) [(entAt T j).step] := OwnI.made (n := 1) rfl (by unfold maxLen; omega) (Nat.le_refl _) (Blk.new _ _ _)
      have hba := below_alloc' hbw (.cells #[.int .i64 (entAt T j).step] 2)
      have hacc := (hO.below (w1 := w4.alloc (.cells #[.int .i64 (entAt T j).step] 2)) (by (repeat (first | exact Below.refl _ _ | refine below_drew' ?_ | refine below_drewN' ?_ _ | refine below_alloc' ?_ _ | refine below_set' ?_ (by (try simp); (try omega)) _ | refine below_step ?_ (by assumption))))).sees
      have hBa := hB.alloc (.cells #[.int .i64 (entAt T j).step] 2)
      obtain ⟨o0, cc0, hve, hvq⟩ := hO.view
      clear hvq hO HW hB hbw
      subst hve
      obtain ⟨wp, hwp⟩ : ∃ wp, (entAt T (entAt T j).par).word = wp := ⟨_, rfl⟩
      rw [hwp] at HF7
      have Hwp := Lib.hid hwp
      clear hwp
      generalize (entAt T j).par = pj at *
      generalize (entAt T j).step = st at *
      generalize (entAt T j).word = wj at *
      have hgw : w.heap.size < w4.heap.size := by omega
      go_wp2_with (at_builtin; refine wpList_join_ints rfl (.tmp 18) (.tmp 19) rfl w4.heap.size _ _ [st] acc rfl hOa rfl hacc (by simp; omega) (by simp) ?_; intro v7 w7 hO7 hb7 hat7 hfr7; have hbw7 := hba.trans (below_le hb7 (by omega)); have hB7 : Blk w7 w.heap.size (tre (.slice (some ⟨gq, 0, none⟩) (wdsI T).length cq) (.slice (some ⟨gf, 0, none⟩) (fromL N T).length cf) (.slice (some ⟨gs, 0, none⟩) (stpL N T).length cs) dv) 59 := (hb7.block _ hgw).trans hBa; have c7 := hB7.cell 1; rw [H1.out] at c7; have f7 := HF7.out w7 hbw7)
      have hs7 := hb7.size
      simp at hs7
      go_roundg pj
      case measure => omega
      case rel => exact ⟨pj, [st] ++ acc, v7, Nat.le_refl _, hpT, by rw [← Hwp.out], rfl, hO7.base_le' (by omega), by simp; omega, HW2, hB7, by omega, hbw7⟩

theorem TOk.pos0 {N : Nat} {T : List Ent} (_h : TOk N T) (h0 : 0 < T.length) : 0 < T.length := h0
theorem entAt_word {T : List Ent} {i : Nat} (hi : i < T.length) (h' : i < (wds T).length) : (entAt T i).word = (wds T)[i]'h' := by simp [wds, entAt_get hi]
theorem idx_word {T : List Ent} (x : Nat) (hm : x ∈ wds T) : (entAt T ((wds T).idxOf x)).word = x := by
  have hi := idx_lt hm
  have hl : (wds T).idxOf x < (wds T).length := List.idxOf_lt_length_of_mem hm
  rw [entAt_word hi hl]
  exact List.getElem_idxOf hl

set_option maxRecDepth 100000 in
set_option maxHeartbeats 4000000 in
theorem sWayTo_calls (M : Mach) (hok : M.Ok) (n k l : Int) (w : World) :
    Calls Try.prog 24 #[.agg (mc M), .int .i64 n, .int .i64 k, .int .i64 l] w fun e w' => ∃ v, e = .returned (.tuple #[v, .int .i64 (wyC M n k l)]) ∧ OwnI w' w.heap.size v (wyR M n k l) ∧ Below w.heap.size w w' := by
  have F1 : Hid (cut (mc M) 0 98 = mc M) := Lib.hid (cut_all _ _ (mc_size hok)); have F2 : Hid (0 + 98 ≤ (mc M).size) := Lib.hid (by rw [mc_size hok]; omega)
  have hB : Blk (w.alloc (.cells (mc M) 29)) w.heap.size (mc M) 29 := Blk.new w _ _
  have hbw0 : Below w.heap.size w (w.alloc (.cells (mc M) 29)) := by (repeat (first | exact Below.refl _ _ | refine below_drew' ?_ | refine below_drewN' ?_ _ | refine below_alloc' ?_ _ | refine below_set' ?_ (by (try simp); (try omega)) _ | refine below_step ?_ (by assumption)))
  have hBW := hB.alloc (.cells #[.int .i64 k, .int .i64 l] 2)
  have hbwW := below_alloc' hbw0 (.cells #[.int .i64 k, .int .i64 l] 2)
  have HC := Lib.hid (l05Place_calls M hok n (.slice (some ⟨w.heap.size + 1, 0, none⟩) 2 2) [k, l] (by simp) ((w.alloc (.cells (mc M) 29)).alloc (.cells #[.int .i64 k, .int .i64 l] 2)) (sees_words2 _ _ _ _ (Blk.new_at _ _ _ _ (by simp))))
  by_cases hc : gC M n [k, l] = 0
  · obtain ⟨L, S, nn, hg, rfl, hnL, hkk⟩ := gC_words hok hc
    obtain ⟨kk, rfl, hklt⟩ := hkk k (by simp)
    obtain ⟨ll, rfl, hll⟩ := hkk l (by simp)
    obtain ⟨e1, e2⟩ := wy_good hg hc
    rw [e1, e2]
    rw [hc] at HC
    have hN : L ^ nn ≤ 243 := by have := hg.L2; exact pow_le L nn hg.L3 (by omega)
    have hz := zero_tre
    have H4 : Hid (∀ q f s d, (tre q f s d).size = 4) := Lib.hid (fun _ _ _ _ => rfl)
    have H40 : Hid (tre0.size = 4) := Lib.hid rfl
    have H4o : Hid (∀ q f s d, over tre0 0 (tre q f s d) = tre q f s d) := Lib.hid (fun q f s d => over_all _ _ rfl)
    have H4c : Hid (∀ q f s d, (tre q f s d)[3]? = some d) := Lib.hid (fun _ _ _ _ => rfl)
    have H4k : Hid (∀ q f s d, cut (tre q f s d) 0 4 = tre q f s d) := Lib.hid (fun q f s d => cut_all _ _ rfl)
    have HT := Lib.hid (fun W => l05Tables_calls M L S hg nn (by have := hg.L2; omega) W)
    have HO := Lib.hid (fun b v vs W h => l05Grow_calls M L S hg nn (L ^ nn) rfl (by omega) kk hklt b v vs W h)
    have HWy := Lib.hid (fun (T : List Ent) (hT : TOk (L ^ nn) T) (hin : ll ∈ wds T) gq gf gs cq cf cs dv W hq hf hs => (by
      have := l05Way_calls (L ^ nn) T hT (by omega) ((wds T).idxOf ll) (idx_lt hin) gq gf gs cq cf cs dv W hq hf hs
      rw [idx_word ll hin] at this
      exact this : Calls Try.prog 37 #[.agg (tre (.slice (some ⟨gq, 0, none⟩) (wdsI T).length cq) (.slice (some ⟨gf, 0, none⟩) (fromL (L ^ nn) T).length cf) (.slice (some ⟨gs, 0, none⟩) (stpL (L ^ nn) T).length cs) dv), .int .i64 (ll : Int)] W fun e w' => ∃ v, e = .returned v ∧ OwnI w' W.heap.size v (wayL T ((wds T).idxOf ll)) ∧ Below W.heap.size W w'))
    have Hpos := Lib.hid (treeT_pos (fwd M L nn S ++ bwd M L S nn S) (L ^ nn) kk)
    clear hc hkk e1 e2
    generalize treeT (fwd M L nn S ++ bwd M L S nn S) (L ^ nn) kk = T0 at *
    generalize L ^ nn = N at *
    by_cases hin : ll ∈ wds T0
    · rw [if_pos hin, if_pos hin]
      go_enter Try.func24, Try.ntmps24
      go_wp2_with (first | (with_reducible show wpList _ _ _ _ _ _; refine wpList_load_blk rfl 29 (.tmp 4) rfl w.heap.size 0 rfl (mc M) _ (by first | exact hBW | exact hB) 98 F2.out _ Try.underlying29 rfl size_mach ?_; rw [F1.out]) | (go_at_call 34; refine HC.out.mono ?_; rintro e w1 ⟨rfl, hb1⟩; have hB1 := hBW.keptAll hb1; have hbw1 := below_step hbwW hb1))
      have hdr : Below w1.heap.size w1 w1.drew := (Below.refl _ _).drew
      have hbd := below_step hbw1 hdr
      have hB1d := hB1.drew
      clear hB hBW hbw0 hbwW hb1 hdr hbw1 hB1
      refine wp_region_held_drew (S := fun W => Blk W w.heap.size (mc M) 29) (by kernel_rfl) hB1d (fun hS0 => ?_)
      clear hB1d
      generalize w1.drew = W0 at *
      (refine hK_load 0 rfl (by kernel_rfl) (by kernel_rfl) (by kernel_rfl) 29 _ rfl (w.heap.size) 0 rfl (mc M) _ (fun W hW => hW) 98 (F2.out) _ Try.underlying29 rfl size_mach _ (F1.out) (fun _ _ _ h => h) rfl hS0 ?_; (intro K hK; go_simp; refine hK _ ?_; clear hK K))
      (refine hK_load 1 rfl (by kernel_rfl) (by kernel_rfl) (by kernel_rfl) 29 _ rfl (w.heap.size) 0 rfl (mc M) _ (fun W hW => hW) 98 (F2.out) _ Try.underlying29 rfl size_mach _ (F1.out) (fun _ _ _ h => h) rfl hS0 ?_; (intro K hK; go_simp; refine hK _ ?_; clear hK K))
      (refine hK_take 2 (.int .i64 (nn : Int)) rfl (by kernel_rfl) (by kernel_rfl) (by kernel_rfl) (fun _ _ _ h => h) rfl (fun W _ => by go_simp) hS0 ?_; (intro K hK; go_simp; refine hK _ ?_; clear hK K))
      (refine hK_take 4 (.int .i64 (kk : Int)) rfl (by kernel_rfl) (by kernel_rfl) (by kernel_rfl) (fun _ _ _ h => h) rfl (fun W _ => by go_simp) hS0 ?_; (intro K hK; go_simp; refine hK _ ?_; clear hK K))
      have hB_0 := hS0
      have hb_0 := hbd
      clear hS0 hbd
      refine wpAnyH_ready (rs := [3, 6]) (by kernel_rfl) (by simp) ?_
      refine (AllReadyH.cons rfl (fun K hK => ?_) (AllReadyH.cons rfl (fun K hK => ?_) AllReadyH.nil))
      · go_simp
        refine (HT.out _).mono ?_
        rintro e W1 ⟨v3, vs3, rfl, hO_1, hc⟩
        have hB_1 := hB_0.keptAll hc
        have hb_1 := below_step hb_0 hc
        clear hc hB_0 hb_0
        go_simp
        refine hK.out _ _ hB_1 (fun hS => ?_)
        clear hS hK K
        refine wpAnyH_ready (rs := [5, 6]) (by kernel_rfl) (by simp) ?_
        refine (AllReadyH.cons rfl (fun K hK => ?_) (AllReadyH.cons rfl (fun K hK => ?_) AllReadyH.nil))
        · go_simp
          refine (HO.out _ v3 vs3 _ hO_1).mono ?_
          rintro e W2 ⟨qv, fv, sv, dv, T, rfl, hTe, hTok, hq_2, hf_2, hs_2, hd_2, hc⟩
          subst hTe
          have hB_2 := hB_1.keptAll hc
          have hb_2 := below_step hb_1 hc
          clear hc hB_1 hO_1 hb_1
          obtain ⟨gq, cq, rfl⟩ := hq_2.sees.open (by rw [wdsI_len]; exact hTok.pos0 Hpos.out)
          obtain ⟨gf, cf, rfl⟩ := hf_2.sees.open (by rw [fromL_len]; omega)
          obtain ⟨gs, cs, rfl⟩ := hs_2.sees.open (by rw [stpL_len]; omega)
          obtain ⟨gd, cd, rfl⟩ := hd_2.sees.open (by rw [distL_len]; omega)
          go_simp
          refine hK.out _ _ hB_2 (fun hS => ?_)
          clear hS hK K
          refine wpAnyH_ready (rs := [6]) (by kernel_rfl) (by simp) ?_
          refine (AllReadyH.cons rfl (fun K hK => ?_) AllReadyH.nil)
          · go_simp
            have hB_3 := hB_2.alloc (.cells tre0 59)
            have hq_3 := hq_2.below (w1 := W2.alloc (.cells tre0 59)) (by (repeat (first | exact Below.refl _ _ | refine below_drew' ?_ | refine below_drewN' ?_ _ | refine below_alloc' ?_ _ | refine below_set' ?_ (by (try simp); (try omega)) _ | refine below_step ?_ (by assumption))))
            have hf_3 := hf_2.below (w1 := W2.alloc (.cells tre0 59)) (by (repeat (first | exact Below.refl _ _ | refine below_drew' ?_ | refine below_drewN' ?_ _ | refine below_alloc' ?_ _ | refine below_set' ?_ (by (try simp); (try omega)) _ | refine below_step ?_ (by assumption))))
            have hs_3 := hs_2.below (w1 := W2.alloc (.cells tre0 59)) (by (repeat (first | exact Below.refl _ _ | refine below_drew' ?_ | refine below_drewN' ?_ _ | refine below_alloc' ?_ _ | refine below_set' ?_ (by (try simp); (try omega)) _ | refine below_step ?_ (by assumption))))
            have hd_3 := hd_2.below (w1 := W2.alloc (.cells tre0 59)) (by (repeat (first | exact Below.refl _ _ | refine below_drew' ?_ | refine below_drewN' ?_ _ | refine below_alloc' ?_ _ | refine below_set' ?_ (by (try simp); (try omega)) _ | refine below_step ?_ (by assumption))))
            have hb_3 := below_alloc' hb_2 (.cells tre0 59)
            have hX_3 : Blk (W2.alloc (.cells tre0 59)) W2.heap.size tre0 59 := Blk.new _ _ _
            have ox : w.heap.size < W2.heap.size := hB_2.lt
            have hlq := (World.ownsRow.lt hq_2)
            have hlf := (World.ownsRow.lt hf_2)
            have hls := (World.ownsRow.lt hs_2)
            have hld := (World.ownsRow.lt hd_2)
            refine hK.out _ _ hB_3 (fun hS => ?_)
            clear hS hK K hB_2 hq_2 hf_2 hs_2 hd_2 hb_2
            generalize W2.alloc (.cells tre0 59) = W3 at *
            generalize W2.heap.size = bx at *
            have hnq : ∀ k, Value.ownBlock (.slice (some ⟨gq, 0, none⟩) (wdsI T).length cq) = some k → k ≠ bx := fun k hk => by have := (hlq k hk).2; omega
            have hnf : ∀ k, Value.ownBlock (.slice (some ⟨gf, 0, none⟩) (fromL N T).length cf) = some k → k ≠ bx := fun k hk => by have := (hlf k hk).2; omega
            have hns : ∀ k, Value.ownBlock (.slice (some ⟨gs, 0, none⟩) (stpL N T).length cs) = some k → k ≠ bx := fun k hk => by have := (hls k hk).2; omega
            have hnd : ∀ k, Value.ownBlock (.slice (some ⟨gd, 0, none⟩) (distL N T).length cd) = some k → k ≠ bx := fun k hk => by have := (hld k hk).2; omega
            refine hK_store 7 rfl (by kernel_rfl) rfl 59 _ _ rfl bx 0 (tre (.slice (some ⟨gq, 0, none⟩) (wdsI T).length cq) (.slice (some ⟨gf, 0, none⟩) (fromL N T).length cf) (.slice (some ⟨gs, 0, none⟩) (stpL N T).length cs) (.slice (some ⟨gd, 0, none⟩) (distL N T).length cd)) rfl rfl _ _ hX_3 (by rw [H4.out, H40.out]; omega) (by rw [H4.out]; exact size_tre) (tre_slices _ _ _ _ _ _ _ _ _ _ _ _) _ (H4o.out _ _ _ _) (fun W4 hst => ⟨hst.keep (by omega) hB_3, fun hS => ?_⟩)
            (intro K hK; go_simp; refine hK _ ?_; clear hK K)
            have hX := hst.blk
            have hb := hst.below _ _ (by omega) hb_3
            have SQ := Lib.hid (OwnI.sees (owns_same hq_3 (fun k hk => hst.other k (hnq k hk))))
            have SF := Lib.hid (OwnI.sees (owns_same hf_3 (fun k hk => hst.other k (hnf k hk))))
            have SS := Lib.hid (OwnI.sees (owns_same hs_3 (fun k hk => hst.other k (hns k hk))))
            have SD := Lib.hid (OwnI.sees (owns_same hd_3 (fun k hk => hst.other k (hnd k hk))))
            clear hst hB_3 hX_3 hb_3 hq_3 hf_3 hs_3 hd_3 hnq hnf hns hnd
            refine wpAnyH_done (by kernel_rfl) ?_ _
            have hdi : (ll : Int) < ((distL N T).length : Int) := by rw [distL_len]; omega
            obtain ⟨hdx, hd1, _⟩ := dist_met (N := N) (T := T) ll hll
            have hz := hd1 hin
            have cd1 := SD.out.cellAt ll hdx
            have cX := hX.cell 3
            rw [H4c.out] at cX
            have hXX := hX
            clear hd1 hX
            generalize (distL N T)[ll] = z at *
            go_wp2_with (first | (with_reducible show wpList _ _ _ _ _ _; refine wpList_load_blk rfl 59 _ rfl bx 0 rfl (tre (.slice (some ⟨gq, 0, none⟩) (wdsI T).length cq) (.slice (some ⟨gf, 0, none⟩) (fromL N T).length cf) (.slice (some ⟨gs, 0, none⟩) (stpL N T).length cs) (.slice (some ⟨gd, 0, none⟩) (distL N T).length cd)) _ hXX 4 (by rw [H4.out]; omega) _ Try.underlying59 rfl size_tre ?_; rw [H4k.out]) | (go_at_call 37; refine (HWy.out T hTok hin _ _ _ _ _ _ _ _ SQ.out SF.out SS.out).mono ?_; rintro e w5 ⟨v5, rfl, hO5, hb5⟩))
            go_ret2
            exact ⟨_, rfl, hO5.base_le' hb.size, below_step hb hb5⟩
        · go_simp
          have hB_2 := hB_1.alloc (.cells tre0 59)
          have hO_2 := hO_1.below (w1 := W1.alloc (.cells tre0 59)) (by (repeat (first | exact Below.refl _ _ | refine below_drew' ?_ | refine below_drewN' ?_ _ | refine below_alloc' ?_ _ | refine below_set' ?_ (by (try simp); (try omega)) _ | refine below_step ?_ (by assumption))))
          have hb_2 := below_alloc' hb_1 (.cells tre0 59)
          have hX_2 : Blk (W1.alloc (.cells tre0 59)) W1.heap.size tre0 59 := Blk.new _ _ _
          have ox : w.heap.size < W1.heap.size := hB_1.lt
          refine hK.out _ _ hB_2 (fun hS => ?_)
          clear hS hK K hB_1 hO_1 hb_1
          generalize W1.alloc (.cells tre0 59) = W2 at *
          generalize W1.heap.size = bx at *
          refine wpAnyH_ready (rs := [5]) (by kernel_rfl) (by simp) ?_
          refine (AllReadyH.cons rfl (fun K hK => ?_) AllReadyH.nil)
          · go_simp
            refine (HO.out _ v3 vs3 _ hO_2).mono ?_
            rintro e W3 ⟨qv, fv, sv, dv, T, rfl, hTe, hTok, hq_3, hf_3, hs_3, hd_3, hc⟩
            subst hTe
            have hB_3 := hB_2.keptAll hc
            have hX_3 := hX_2.keptAll hc
            have hxl := hX_2.lt
            have hb_3 := below_step hb_2 hc
            clear hc hB_2 hX_2 hO_2 hb_2
            obtain ⟨gq, cq, rfl⟩ := hq_3.sees.open (by rw [wdsI_len]; exact hTok.pos0 Hpos.out)
            obtain ⟨gf, cf, rfl⟩ := hf_3.sees.open (by rw [fromL_len]; omega)
            obtain ⟨gs, cs, rfl⟩ := hs_3.sees.open (by rw [stpL_len]; omega)
            obtain ⟨gd, cd, rfl⟩ := hd_3.sees.open (by rw [distL_len]; omega)
            go_simp
            refine hK.out _ _ hB_3 (fun hS => ?_)
            clear hS hK K
            have hnq : ∀ k, Value.ownBlock (.slice (some ⟨gq, 0, none⟩) (wdsI T).length cq) = some k → k ≠ bx := fun k hk => by have := (World.ownsRow.lt hq_3 k hk).1; omega
            have hnf : ∀ k, Value.ownBlock (.slice (some ⟨gf, 0, none⟩) (fromL N T).length cf) = some k → k ≠ bx := fun k hk => by have := (World.ownsRow.lt hf_3 k hk).1; omega
            have hns : ∀ k, Value.ownBlock (.slice (some ⟨gs, 0, none⟩) (stpL N T).length cs) = some k → k ≠ bx := fun k hk => by have := (World.ownsRow.lt hs_3 k hk).1; omega
            have hnd : ∀ k, Value.ownBlock (.slice (some ⟨gd, 0, none⟩) (distL N T).length cd) = some k → k ≠ bx := fun k hk => by have := (World.ownsRow.lt hd_3 k hk).1; omega
            refine hK_store 7 rfl (by kernel_rfl) rfl 59 _ _ rfl bx 0 (tre (.slice (some ⟨gq, 0, none⟩) (wdsI T).length cq) (.slice (some ⟨gf, 0, none⟩) (fromL N T).length cf) (.slice (some ⟨gs, 0, none⟩) (stpL N T).length cs) (.slice (some ⟨gd, 0, none⟩) (distL N T).length cd)) rfl rfl _ _ hX_3 (by rw [H4.out, H40.out]; omega) (by rw [H4.out]; exact size_tre) (tre_slices _ _ _ _ _ _ _ _ _ _ _ _) _ (H4o.out _ _ _ _) (fun W4 hst => ⟨hst.keep (by omega) hB_3, fun hS => ?_⟩)
            (intro K hK; go_simp; refine hK _ ?_; clear hK K)
            have hX := hst.blk
            have hb := hst.below _ _ (by omega) hb_3
            have SQ := Lib.hid (OwnI.sees (owns_same hq_3 (fun k hk => hst.other k (hnq k hk))))
            have SF := Lib.hid (OwnI.sees (owns_same hf_3 (fun k hk => hst.other k (hnf k hk))))
            have SS := Lib.hid (OwnI.sees (owns_same hs_3 (fun k hk => hst.other k (hns k hk))))
            have SD := Lib.hid (OwnI.sees (owns_same hd_3 (fun k hk => hst.other k (hnd k hk))))
            clear hst hB_3 hX_3 hb_3 hq_3 hf_3 hs_3 hd_3 hnq hnf hns hnd
            refine wpAnyH_done (by kernel_rfl) ?_ _
            have hdi : (ll : Int) < ((distL N T).length : Int) := by rw [distL_len]; omega
            obtain ⟨hdx, hd1, _⟩ := dist_met (N := N) (T := T) ll hll
            have hz := hd1 hin
            have cd1 := SD.out.cellAt ll hdx
            have cX := hX.cell 3
            rw [H4c.out] at cX
            have hXX := hX
            clear hd1 hX
            generalize (distL N T)[ll] = z at *
            go_wp2_with (first | (with_reducible show wpList _ _ _ _ _ _; refine wpList_load_blk rfl 59 _ rfl bx 0 rfl (tre (.slice (some ⟨gq, 0, none⟩) (wdsI T).length cq) (.slice (some ⟨gf, 0, none⟩) (fromL N T).length cf) (.slice (some ⟨gs, 0, none⟩) (stpL N T).length cs) (.slice (some ⟨gd, 0, none⟩) (distL N T).length cd)) _ hXX 4 (by rw [H4.out]; omega) _ Try.underlying59 rfl size_tre ?_; rw [H4k.out]) | (go_at_call 37; refine (HWy.out T hTok hin _ _ _ _ _ _ _ _ SQ.out SF.out SS.out).mono ?_; rintro e w5 ⟨v5, rfl, hO5, hb5⟩))
            go_ret2
            exact ⟨_, rfl, hO5.base_le' hb.size, below_step hb hb5⟩
      · go_simp
        have hB_1 := hB_0.alloc (.cells tre0 59)
        have hb_1 := below_alloc' hb_0 (.cells tre0 59)
        have hX_1 : Blk (W0.alloc (.cells tre0 59)) W0.heap.size tre0 59 := Blk.new _ _ _
        have ox : w.heap.size < W0.heap.size := hB_0.lt
        refine hK.out _ _ hB_1 (fun hS => ?_)
        clear hS hK K hB_0 hb_0
        generalize W0.alloc (.cells tre0 59) = W1 at *
        generalize W0.heap.size = bx at *
        refine wpAnyH_ready (rs := [3]) (by kernel_rfl) (by simp) ?_
        refine (AllReadyH.cons rfl (fun K hK => ?_) AllReadyH.nil)
        · go_simp
          refine (HT.out _).mono ?_
          rintro e W2 ⟨v3, vs3, rfl, hO_2, hc⟩
          have hB_2 := hB_1.keptAll hc
          have hX_2 := hX_1.keptAll hc
          have hb_2 := below_step hb_1 hc
          clear hc hB_1 hX_1 hb_1
          go_simp
          refine hK.out _ _ hB_2 (fun hS => ?_)
          clear hS hK K
          refine wpAnyH_ready (rs := [5]) (by kernel_rfl) (by simp) ?_
          refine (AllReadyH.cons rfl (fun K hK => ?_) AllReadyH.nil)
          · go_simp
            refine (HO.out _ v3 vs3 _ hO_2).mono ?_
            rintro e W3 ⟨qv, fv, sv, dv, T, rfl, hTe, hTok, hq_3, hf_3, hs_3, hd_3, hc⟩
            subst hTe
            have hB_3 := hB_2.keptAll hc
            have hX_3 := hX_2.keptAll hc
            have hxl := hX_2.lt
            have hb_3 := below_step hb_2 hc
            clear hc hB_2 hX_2 hO_2 hb_2
            obtain ⟨gq, cq, rfl⟩ := hq_3.sees.open (by rw [wdsI_len]; exact hTok.pos0 Hpos.out)
            obtain ⟨gf, cf, rfl⟩ := hf_3.sees.open (by rw [fromL_len]; omega)
            obtain ⟨gs, cs, rfl⟩ := hs_3.sees.open (by rw [stpL_len]; omega)
            obtain ⟨gd, cd, rfl⟩ := hd_3.sees.open (by rw [distL_len]; omega)
            go_simp
            refine hK.out _ _ hB_3 (fun hS => ?_)
            clear hS hK K
            have hnq : ∀ k, Value.ownBlock (.slice (some ⟨gq, 0, none⟩) (wdsI T).length cq) = some k → k ≠ bx := fun k hk => by have := (World.ownsRow.lt hq_3 k hk).1; omega
            have hnf : ∀ k, Value.ownBlock (.slice (some ⟨gf, 0, none⟩) (fromL N T).length cf) = some k → k ≠ bx := fun k hk => by have := (World.ownsRow.lt hf_3 k hk).1; omega
            have hns : ∀ k, Value.ownBlock (.slice (some ⟨gs, 0, none⟩) (stpL N T).length cs) = some k → k ≠ bx := fun k hk => by have := (World.ownsRow.lt hs_3 k hk).1; omega
            have hnd : ∀ k, Value.ownBlock (.slice (some ⟨gd, 0, none⟩) (distL N T).length cd) = some k → k ≠ bx := fun k hk => by have := (World.ownsRow.lt hd_3 k hk).1; omega
            refine hK_store 7 rfl (by kernel_rfl) rfl 59 _ _ rfl bx 0 (tre (.slice (some ⟨gq, 0, none⟩) (wdsI T).length cq) (.slice (some ⟨gf, 0, none⟩) (fromL N T).length cf) (.slice (some ⟨gs, 0, none⟩) (stpL N T).length cs) (.slice (some ⟨gd, 0, none⟩) (distL N T).length cd)) rfl rfl _ _ hX_3 (by rw [H4.out, H40.out]; omega) (by rw [H4.out]; exact size_tre) (tre_slices _ _ _ _ _ _ _ _ _ _ _ _) _ (H4o.out _ _ _ _) (fun W4 hst => ⟨hst.keep (by omega) hB_3, fun hS => ?_⟩)
            (intro K hK; go_simp; refine hK _ ?_; clear hK K)
            have hX := hst.blk
            have hb := hst.below _ _ (by omega) hb_3
            have SQ := Lib.hid (OwnI.sees (owns_same hq_3 (fun k hk => hst.other k (hnq k hk))))
            have SF := Lib.hid (OwnI.sees (owns_same hf_3 (fun k hk => hst.other k (hnf k hk))))
            have SS := Lib.hid (OwnI.sees (owns_same hs_3 (fun k hk => hst.other k (hns k hk))))
            have SD := Lib.hid (OwnI.sees (owns_same hd_3 (fun k hk => hst.other k (hnd k hk))))
            clear hst hB_3 hX_3 hb_3 hq_3 hf_3 hs_3 hd_3 hnq hnf hns hnd
            refine wpAnyH_done (by kernel_rfl) ?_ _
            have hdi : (ll : Int) < ((distL N T).length : Int) := by rw [distL_len]; omega
            obtain ⟨hdx, hd1, _⟩ := dist_met (N := N) (T := T) ll hll
            have hz := hd1 hin
            have cd1 := SD.out.cellAt ll hdx
            have cX := hX.cell 3
            rw [H4c.out] at cX
            have hXX := hX
            clear hd1 hX
            generalize (distL N T)[ll] = z at *
            go_wp2_with (first | (with_reducible show wpList _ _ _ _ _ _; refine wpList_load_blk rfl 59 _ rfl bx 0 rfl (tre (.slice (some ⟨gq, 0, none⟩) (wdsI T).length cq) (.slice (some ⟨gf, 0, none⟩) (fromL N T).length cf) (.slice (some ⟨gs, 0, none⟩) (stpL N T).length cs) (.slice (some ⟨gd, 0, none⟩) (distL N T).length cd)) _ hXX 4 (by rw [H4.out]; omega) _ Try.underlying59 rfl size_tre ?_; rw [H4k.out]) | (go_at_call 37; refine (HWy.out T hTok hin _ _ _ _ _ _ _ _ SQ.out SF.out SS.out).mono ?_; rintro e w5 ⟨v5, rfl, hO5, hb5⟩))
            go_ret2
            exact ⟨_, rfl, hO5.base_le' hb.size, below_step hb hb5⟩
    · rw [if_neg hin, if_neg hin]
      go_enter Try.func24, Try.ntmps24
      go_wp2_with (first | (with_reducible show wpList _ _ _ _ _ _; refine wpList_load_blk rfl 29 (.tmp 4) rfl w.heap.size 0 rfl (mc M) _ (by first | exact hBW | exact hB) 98 F2.out _ Try.underlying29 rfl size_mach ?_; rw [F1.out]) | (go_at_call 34; refine HC.out.mono ?_; rintro e w1 ⟨rfl, hb1⟩; have hB1 := hBW.keptAll hb1; have hbw1 := below_step hbwW hb1))
      have hdr : Below w1.heap.size w1 w1.drew := (Below.refl _ _).drew
      have hbd := below_step hbw1 hdr
      have hB1d := hB1.drew
      clear hB hBW hbw0 hbwW hb1 hdr hbw1 hB1
      refine wp_region_held_drew (S := fun W => Blk W w.heap.size (mc M) 29) (by kernel_rfl) hB1d (fun hS0 => ?_)
      clear hB1d
      generalize w1.drew = W0 at *
      (refine hK_load 0 rfl (by kernel_rfl) (by kernel_rfl) (by kernel_rfl) 29 _ rfl (w.heap.size) 0 rfl (mc M) _ (fun W hW => hW) 98 (F2.out) _ Try.underlying29 rfl size_mach _ (F1.out) (fun _ _ _ h => h) rfl hS0 ?_; (intro K hK; go_simp; refine hK _ ?_; clear hK K))
      (refine hK_load 1 rfl (by kernel_rfl) (by kernel_rfl) (by kernel_rfl) 29 _ rfl (w.heap.size) 0 rfl (mc M) _ (fun W hW => hW) 98 (F2.out) _ Try.underlying29 rfl size_mach _ (F1.out) (fun _ _ _ h => h) rfl hS0 ?_; (intro K hK; go_simp; refine hK _ ?_; clear hK K))
      (refine hK_take 2 (.int .i64 (nn : Int)) rfl (by kernel_rfl) (by kernel_rfl) (by kernel_rfl) (fun _ _ _ h => h) rfl (fun W _ => by go_simp) hS0 ?_; (intro K hK; go_simp; refine hK _ ?_; clear hK K))
      (refine hK_take 4 (.int .i64 (kk : Int)) rfl (by kernel_rfl) (by kernel_rfl) (by kernel_rfl) (fun _ _ _ h => h) rfl (fun W _ => by go_simp) hS0 ?_; (intro K hK; go_simp; refine hK _ ?_; clear hK K))
      have hB_0 := hS0
      have hb_0 := hbd
      clear hS0 hbd
      refine wpAnyH_ready (rs := [3, 6]) (by kernel_rfl) (by simp) ?_
      refine (AllReadyH.cons rfl (fun K hK => ?_) (AllReadyH.cons rfl (fun K hK => ?_) AllReadyH.nil))
      · go_simp
        refine (HT.out _).mono ?_
        rintro e W1 ⟨v3, vs3, rfl, hO_1, hc⟩
        have hB_1 := hB_0.keptAll hc
        have hb_1 := below_step hb_0 hc
        clear hc hB_0 hb_0
        go_simp
        refine hK.out _ _ hB_1 (fun hS => ?_)
        clear hS hK K
        refine wpAnyH_ready (rs := [5, 6]) (by kernel_rfl) (by simp) ?_
        refine (AllReadyH.cons rfl (fun K hK => ?_) (AllReadyH.cons rfl (fun K hK => ?_) AllReadyH.nil))
        · go_simp
          refine (HO.out _ v3 vs3 _ hO_1).mono ?_
          rintro e W2 ⟨qv, fv, sv, dv, T, rfl, hTe, hTok, hq_2, hf_2, hs_2, hd_2, hc⟩
          subst hTe
          have hB_2 := hB_1.keptAll hc
          have hb_2 := below_step hb_1 hc
          clear hc hB_1 hO_1 hb_1
          obtain ⟨gq, cq, rfl⟩ := hq_2.sees.open (by rw [wdsI_len]; exact hTok.pos0 Hpos.out)
          obtain ⟨gf, cf, rfl⟩ := hf_2.sees.open (by rw [fromL_len]; omega)
          obtain ⟨gs, cs, rfl⟩ := hs_2.sees.open (by rw [stpL_len]; omega)
          obtain ⟨gd, cd, rfl⟩ := hd_2.sees.open (by rw [distL_len]; omega)
          go_simp
          refine hK.out _ _ hB_2 (fun hS => ?_)
          clear hS hK K
          refine wpAnyH_ready (rs := [6]) (by kernel_rfl) (by simp) ?_
          refine (AllReadyH.cons rfl (fun K hK => ?_) AllReadyH.nil)
          · go_simp
            have hB_3 := hB_2.alloc (.cells tre0 59)
            have hq_3 := hq_2.below (w1 := W2.alloc (.cells tre0 59)) (by (repeat (first | exact Below.refl _ _ | refine below_drew' ?_ | refine below_drewN' ?_ _ | refine below_alloc' ?_ _ | refine below_set' ?_ (by (try simp); (try omega)) _ | refine below_step ?_ (by assumption))))
            have hf_3 := hf_2.below (w1 := W2.alloc (.cells tre0 59)) (by (repeat (first | exact Below.refl _ _ | refine below_drew' ?_ | refine below_drewN' ?_ _ | refine below_alloc' ?_ _ | refine below_set' ?_ (by (try simp); (try omega)) _ | refine below_step ?_ (by assumption))))
            have hs_3 := hs_2.below (w1 := W2.alloc (.cells tre0 59)) (by (repeat (first | exact Below.refl _ _ | refine below_drew' ?_ | refine below_drewN' ?_ _ | refine below_alloc' ?_ _ | refine below_set' ?_ (by (try simp); (try omega)) _ | refine below_step ?_ (by assumption))))
            have hd_3 := hd_2.below (w1 := W2.alloc (.cells tre0 59)) (by (repeat (first | exact Below.refl _ _ | refine below_drew' ?_ | refine below_drewN' ?_ _ | refine below_alloc' ?_ _ | refine below_set' ?_ (by (try simp); (try omega)) _ | refine below_step ?_ (by assumption))))
            have hb_3 := below_alloc' hb_2 (.cells tre0 59)
            have hX_3 : Blk (W2.alloc (.cells tre0 59)) W2.heap.size tre0 59 := Blk.new _ _ _
            have ox : w.heap.size < W2.heap.size := hB_2.lt
            have hlq := (World.ownsRow.lt hq_2)
            have hlf := (World.ownsRow.lt hf_2)
            have hls := (World.ownsRow.lt hs_2)
            have hld := (World.ownsRow.lt hd_2)
            refine hK.out _ _ hB_3 (fun hS => ?_)
            clear hS hK K hB_2 hq_2 hf_2 hs_2 hd_2 hb_2
            generalize W2.alloc (.cells tre0 59) = W3 at *
            generalize W2.heap.size = bx at *
            have hnq : ∀ k, Value.ownBlock (.slice (some ⟨gq, 0, none⟩) (wdsI T).length cq) = some k → k ≠ bx := fun k hk => by have := (hlq k hk).2; omega
            have hnf : ∀ k, Value.ownBlock (.slice (some ⟨gf, 0, none⟩) (fromL N T).length cf) = some k → k ≠ bx := fun k hk => by have := (hlf k hk).2; omega
            have hns : ∀ k, Value.ownBlock (.slice (some ⟨gs, 0, none⟩) (stpL N T).length cs) = some k → k ≠ bx := fun k hk => by have := (hls k hk).2; omega
            have hnd : ∀ k, Value.ownBlock (.slice (some ⟨gd, 0, none⟩) (distL N T).length cd) = some k → k ≠ bx := fun k hk => by have := (hld k hk).2; omega
            refine hK_store 7 rfl (by kernel_rfl) rfl 59 _ _ rfl bx 0 (tre (.slice (some ⟨gq, 0, none⟩) (wdsI T).length cq) (.slice (some ⟨gf, 0, none⟩) (fromL N T).length cf) (.slice (some ⟨gs, 0, none⟩) (stpL N T).length cs) (.slice (some ⟨gd, 0, none⟩) (distL N T).length cd)) rfl rfl _ _ hX_3 (by rw [H4.out, H40.out]; omega) (by rw [H4.out]; exact size_tre) (tre_slices _ _ _ _ _ _ _ _ _ _ _ _) _ (H4o.out _ _ _ _) (fun W4 hst => ⟨hst.keep (by omega) hB_3, fun hS => ?_⟩)
            (intro K hK; go_simp; refine hK _ ?_; clear hK K)
            have hX := hst.blk
            have hb := hst.below _ _ (by omega) hb_3
            have SQ := Lib.hid (OwnI.sees (owns_same hq_3 (fun k hk => hst.other k (hnq k hk))))
            have SF := Lib.hid (OwnI.sees (owns_same hf_3 (fun k hk => hst.other k (hnf k hk))))
            have SS := Lib.hid (OwnI.sees (owns_same hs_3 (fun k hk => hst.other k (hns k hk))))
            have SD := Lib.hid (OwnI.sees (owns_same hd_3 (fun k hk => hst.other k (hnd k hk))))
            clear hst hB_3 hX_3 hb_3 hq_3 hf_3 hs_3 hd_3 hnq hnf hns hnd
            refine wpAnyH_done (by kernel_rfl) ?_ _
            have hdi : (ll : Int) < ((distL N T).length : Int) := by rw [distL_len]; omega
            obtain ⟨hdx, _, hd2⟩ := dist_met (N := N) (T := T) ll hll
            have cd1 := SD.out.cellAt ll hdx
            rw [hd2 hin] at cd1
            have cX := hX.cell 3
            rw [H4c.out] at cX
            clear hd2 hX
            go_wp2
            go_ret2
            exact ⟨_, rfl, OwnI.nil _ _, hb⟩
        · go_simp
          have hB_2 := hB_1.alloc (.cells tre0 59)
          have hO_2 := hO_1.below (w1 := W1.alloc (.cells tre0 59)) (by (repeat (first | exact Below.refl _ _ | refine below_drew' ?_ | refine below_drewN' ?_ _ | refine below_alloc' ?_ _ | refine below_set' ?_ (by (try simp); (try omega)) _ | refine below_step ?_ (by assumption))))
          have hb_2 := below_alloc' hb_1 (.cells tre0 59)
          have hX_2 : Blk (W1.alloc (.cells tre0 59)) W1.heap.size tre0 59 := Blk.new _ _ _
          have ox : w.heap.size < W1.heap.size := hB_1.lt
          refine hK.out _ _ hB_2 (fun hS => ?_)
          clear hS hK K hB_1 hO_1 hb_1
          generalize W1.alloc (.cells tre0 59) = W2 at *
          generalize W1.heap.size = bx at *
          refine wpAnyH_ready (rs := [5]) (by kernel_rfl) (by simp) ?_
          refine (AllReadyH.cons rfl (fun K hK => ?_) AllReadyH.nil)
          · go_simp
            refine (HO.out _ v3 vs3 _ hO_2).mono ?_
            rintro e W3 ⟨qv, fv, sv, dv, T, rfl, hTe, hTok, hq_3, hf_3, hs_3, hd_3, hc⟩
            subst hTe
            have hB_3 := hB_2.keptAll hc
            have hX_3 := hX_2.keptAll hc
            have hxl := hX_2.lt
            have hb_3 := below_step hb_2 hc
            clear hc hB_2 hX_2 hO_2 hb_2
            obtain ⟨gq, cq, rfl⟩ := hq_3.sees.open (by rw [wdsI_len]; exact hTok.pos0 Hpos.out)
            obtain ⟨gf, cf, rfl⟩ := hf_3.sees.open (by rw [fromL_len]; omega)
            obtain ⟨gs, cs, rfl⟩ := hs_3.sees.open (by rw [stpL_len]; omega)
            obtain ⟨gd, cd, rfl⟩ := hd_3.sees.open (by rw [distL_len]; omega)
            go_simp
            refine hK.out _ _ hB_3 (fun hS => ?_)
            clear hS hK K
            have hnq : ∀ k, Value.ownBlock (.slice (some ⟨gq, 0, none⟩) (wdsI T).length cq) = some k → k ≠ bx := fun k hk => by have := (World.ownsRow.lt hq_3 k hk).1; omega
            have hnf : ∀ k, Value.ownBlock (.slice (some ⟨gf, 0, none⟩) (fromL N T).length cf) = some k → k ≠ bx := fun k hk => by have := (World.ownsRow.lt hf_3 k hk).1; omega
            have hns : ∀ k, Value.ownBlock (.slice (some ⟨gs, 0, none⟩) (stpL N T).length cs) = some k → k ≠ bx := fun k hk => by have := (World.ownsRow.lt hs_3 k hk).1; omega
            have hnd : ∀ k, Value.ownBlock (.slice (some ⟨gd, 0, none⟩) (distL N T).length cd) = some k → k ≠ bx := fun k hk => by have := (World.ownsRow.lt hd_3 k hk).1; omega
            refine hK_store 7 rfl (by kernel_rfl) rfl 59 _ _ rfl bx 0 (tre (.slice (some ⟨gq, 0, none⟩) (wdsI T).length cq) (.slice (some ⟨gf, 0, none⟩) (fromL N T).length cf) (.slice (some ⟨gs, 0, none⟩) (stpL N T).length cs) (.slice (some ⟨gd, 0, none⟩) (distL N T).length cd)) rfl rfl _ _ hX_3 (by rw [H4.out, H40.out]; omega) (by rw [H4.out]; exact size_tre) (tre_slices _ _ _ _ _ _ _ _ _ _ _ _) _ (H4o.out _ _ _ _) (fun W4 hst => ⟨hst.keep (by omega) hB_3, fun hS => ?_⟩)
            (intro K hK; go_simp; refine hK _ ?_; clear hK K)
            have hX := hst.blk
            have hb := hst.below _ _ (by omega) hb_3
            have SQ := Lib.hid (OwnI.sees (owns_same hq_3 (fun k hk => hst.other k (hnq k hk))))
            have SF := Lib.hid (OwnI.sees (owns_same hf_3 (fun k hk => hst.other k (hnf k hk))))
            have SS := Lib.hid (OwnI.sees (owns_same hs_3 (fun k hk => hst.other k (hns k hk))))
            have SD := Lib.hid (OwnI.sees (owns_same hd_3 (fun k hk => hst.other k (hnd k hk))))
            clear hst hB_3 hX_3 hb_3 hq_3 hf_3 hs_3 hd_3 hnq hnf hns hnd
            refine wpAnyH_done (by kernel_rfl) ?_ _
            have hdi : (ll : Int) < ((distL N T).length : Int) := by rw [distL_len]; omega
            obtain ⟨hdx, _, hd2⟩ := dist_met (N := N) (T := T) ll hll
            have cd1 := SD.out.cellAt ll hdx
            rw [hd2 hin] at cd1
            have cX := hX.cell 3
            rw [H4c.out] at cX
            clear hd2 hX
            go_wp2
            go_ret2
            exact ⟨_, rfl, OwnI.nil _ _, hb⟩
      · go_simp
        have hB_1 := hB_0.alloc (.cells tre0 59)
        have hb_1 := below_alloc' hb_0 (.cells tre0 59)
        have hX_1 : Blk (W0.alloc (.cells tre0 59)) W0.heap.size tre0 59 := Blk.new _ _ _
        have ox : w.heap.size < W0.heap.size := hB_0.lt
        refine hK.out _ _ hB_1 (fun hS => ?_)
        clear hS hK K hB_0 hb_0
        generalize W0.alloc (.cells tre0 59) = W1 at *
        generalize W0.heap.size = bx at *
        refine wpAnyH_ready (rs := [3]) (by kernel_rfl) (by simp) ?_
        refine (AllReadyH.cons rfl (fun K hK => ?_) AllReadyH.nil)
        · go_simp
          refine (HT.out _).mono ?_
          rintro e W2 ⟨v3, vs3, rfl, hO_2, hc⟩
          have hB_2 := hB_1.keptAll hc
          have hX_2 := hX_1.keptAll hc
          have hb_2 := below_step hb_1 hc
          clear hc hB_1 hX_1 hb_1
          go_simp
          refine hK.out _ _ hB_2 (fun hS => ?_)
          clear hS hK K
          refine wpAnyH_ready (rs := [5]) (by kernel_rfl) (by simp) ?_
          refine (AllReadyH.cons rfl (fun K hK => ?_) AllReadyH.nil)
          · go_simp
            refine (HO.out _ v3 vs3 _ hO_2).mono ?_
            rintro e W3 ⟨qv, fv, sv, dv, T, rfl, hTe, hTok, hq_3, hf_3, hs_3, hd_3, hc⟩
            subst hTe
            have hB_3 := hB_2.keptAll hc
            have hX_3 := hX_2.keptAll hc
            have hxl := hX_2.lt
            have hb_3 := below_step hb_2 hc
            clear hc hB_2 hX_2 hO_2 hb_2
            obtain ⟨gq, cq, rfl⟩ := hq_3.sees.open (by rw [wdsI_len]; exact hTok.pos0 Hpos.out)
            obtain ⟨gf, cf, rfl⟩ := hf_3.sees.open (by rw [fromL_len]; omega)
            obtain ⟨gs, cs, rfl⟩ := hs_3.sees.open (by rw [stpL_len]; omega)
            obtain ⟨gd, cd, rfl⟩ := hd_3.sees.open (by rw [distL_len]; omega)
            go_simp
            refine hK.out _ _ hB_3 (fun hS => ?_)
            clear hS hK K
            have hnq : ∀ k, Value.ownBlock (.slice (some ⟨gq, 0, none⟩) (wdsI T).length cq) = some k → k ≠ bx := fun k hk => by have := (World.ownsRow.lt hq_3 k hk).1; omega
            have hnf : ∀ k, Value.ownBlock (.slice (some ⟨gf, 0, none⟩) (fromL N T).length cf) = some k → k ≠ bx := fun k hk => by have := (World.ownsRow.lt hf_3 k hk).1; omega
            have hns : ∀ k, Value.ownBlock (.slice (some ⟨gs, 0, none⟩) (stpL N T).length cs) = some k → k ≠ bx := fun k hk => by have := (World.ownsRow.lt hs_3 k hk).1; omega
            have hnd : ∀ k, Value.ownBlock (.slice (some ⟨gd, 0, none⟩) (distL N T).length cd) = some k → k ≠ bx := fun k hk => by have := (World.ownsRow.lt hd_3 k hk).1; omega
            refine hK_store 7 rfl (by kernel_rfl) rfl 59 _ _ rfl bx 0 (tre (.slice (some ⟨gq, 0, none⟩) (wdsI T).length cq) (.slice (some ⟨gf, 0, none⟩) (fromL N T).length cf) (.slice (some ⟨gs, 0, none⟩) (stpL N T).length cs) (.slice (some ⟨gd, 0, none⟩) (distL N T).length cd)) rfl rfl _ _ hX_3 (by rw [H4.out, H40.out]; omega) (by rw [H4.out]; exact size_tre) (tre_slices _ _ _ _ _ _ _ _ _ _ _ _) _ (H4o.out _ _ _ _) (fun W4 hst => ⟨hst.keep (by omega) hB_3, fun hS => ?_⟩)
            (intro K hK; go_simp; refine hK _ ?_; clear hK K)
            have hX := hst.blk
            have hb := hst.below _ _ (by omega) hb_3
            have SQ := Lib.hid (OwnI.sees (owns_same hq_3 (fun k hk => hst.other k (hnq k hk))))
            have SF := Lib.hid (OwnI.sees (owns_same hf_3 (fun k hk => hst.other k (hnf k hk))))
            have SS := Lib.hid (OwnI.sees (owns_same hs_3 (fun k hk => hst.other k (hns k hk))))
            have SD := Lib.hid (OwnI.sees (owns_same hd_3 (fun k hk => hst.other k (hnd k hk))))
            clear hst hB_3 hX_3 hb_3 hq_3 hf_3 hs_3 hd_3 hnq hnf hns hnd
            refine wpAnyH_done (by kernel_rfl) ?_ _
            have hdi : (ll : Int) < ((distL N T).length : Int) := by rw [distL_len]; omega
            obtain ⟨hdx, _, hd2⟩ := dist_met (N := N) (T := T) ll hll
            have cd1 := SD.out.cellAt ll hdx
            rw [hd2 hin] at cd1
            have cX := hX.cell 3
            rw [H4c.out] at cX
            clear hd2 hX
            go_wp2
            go_ret2
            exact ⟨_, rfl, OwnI.nil _ _, hb⟩
  · obtain ⟨c, hcc⟩ : ∃ c, gC M n [k, l] = c := ⟨_, rfl⟩
    obtain ⟨e1, e2⟩ := wy_bad hcc (by rw [← hcc]; exact hc)
    rw [hcc] at hc HC
    rw [e1, e2]
    have hcb : (c != 0) = true := by simpa using hc
    clear hcc hc
    go_enter Try.func24, Try.ntmps24
    go_wp2_with (first | (with_reducible show wpList _ _ _ _ _ _; refine wpList_load_blk rfl 29 (.tmp 4) rfl w.heap.size 0 rfl (mc M) _ (by first | exact hBW | exact hB) 98 F2.out _ Try.underlying29 rfl size_mach ?_; rw [F1.out]) | (go_at_call 34; refine HC.out.mono ?_; rintro e w1 ⟨rfl, hb1⟩))
    go_ret2
    exact ⟨_, rfl, OwnI.nil _ _, below_step hbwW hb1⟩
end Go.Proofs.Yticnpajbefflbab
