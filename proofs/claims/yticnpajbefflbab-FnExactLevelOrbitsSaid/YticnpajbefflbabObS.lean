/- 'l05Orbits': the model. -/
import Derived.Test.YticnpajbefflbabObD
import Derived.Test.YticnpajbefflbabTrM
namespace Go.Proofs.Yticnpajbefflbab
open Go.RowKit

theorem tre_slices (oa ob oc od : Option Addr) (na nb nc nd ca cb cc cd : Nat) : (tre (.slice oa na ca) (.slice ob nb cb) (.slice oc nc cc) (.slice od nd cd)).all (·.oneCell') = true := by simp [tre, Value.oneCell']
/-- What a round of the orbits holds on to. -/
structure ObX (wr w : World) (M : Mach) (v0 : Value) (vs : List Value) (zss : List (List Int)) (bx : Nat) (qv fv sv dv : Value) (dl : List Int) (ms : List Bool) (b5 b6 : Nat) (ov : Value) (os : List Int) : Prop where
  out : OwnLV wr (w.heap.size + 1) v0 vs zss
  ne : ¬ inLV v0 vs (w.heap.size + 1 + 1)
  mach : Blk wr w.heap.size (mc M) 29
  met : Blk wr (w.heap.size + 1 + 1) (bls ms) 4
  tb : Blk wr bx (tre qv fv sv dv) 59
  di : OwnI wr b5 dv dl
  own : OwnI wr b6 ov os
  low : Below w.heap.size w wr
  g5 : w.heap.size + 3 ≤ b5
  g6 : w.heap.size + 3 ≤ b6
  gx : b6 ≤ bx
  dlt : ∀ k, dv.ownBlock = some k → k < b6
  olt : ∀ k, inLV v0 vs k → k < b6
  ox : ov.ownBlock ≠ some bx
section
variable {wr w : World} {M : Mach} {v0 : Value} {vs : List Value} {zss : List (List Int)} {bx : Nat} {qv fv sv dv : Value} {dl : List Int} {ms : List Bool} {b5 b6 : Nat} {ov : Value} {os : List Int}
theorem ObX.keep (h : ObX wr w M v0 vs zss bx qv fv sv dv dl ms b5 b6 ov os) {w1 : World} (hb : Below wr.heap.size wr w1) : ObX w1 w M v0 vs zss bx qv fv sv dv dl ms b5 b6 ov os :=
  ⟨h.out.below hb, h.ne, h.mach.keptAll hb, h.met.keptAll hb, h.tb.keptAll hb, h.di.below hb, h.own.below hb, h.low.trans (below_le hb h.low.size), h.g5, h.g6, h.gx, h.dlt, h.olt, h.ox⟩
theorem ObX.put (h : ObX wr w M v0 vs zss bx qv fv sv dv dl ms b5 b6 ov os) (i : Nat) (t : Bool) : ObX (wr.setCell ⟨w.heap.size + 1 + 1, i, none⟩ (.bool t)) w M v0 vs zss bx qv fv sv dv dl (ms.set i t) b5 b6 ov os := by
  have hg5 := h.g5
  have hg6 := h.g6
  have hgx := h.gx
  have hfr : ∀ k, k ≠ w.heap.size + 1 + 1 → (wr.setCell ⟨w.heap.size + 1 + 1, i, none⟩ (.bool t)).heap[k]? = wr.heap[k]? := fun k hk => Below.heap_setCell _ ⟨w.heap.size + 1 + 1, i, none⟩ _ k hk
  refine ⟨h.out.same fun k hk => hfr k (fun e => h.ne (e ▸ hk)), h.ne, h.mach.setOther _ _ _ (by omega), by rw [bls_set]; exact h.met.set _ _, h.tb.setOther _ _ _ (by omega), owns_same h.di fun k hk => hfr k ?_, owns_same h.own fun k hk => hfr k ?_, h.low.setCell (by show w.heap.size ≤ w.heap.size + 1 + 1; omega) _, hg5, hg6, hgx, h.dlt, h.olt, h.ox⟩
  · have := (World.ownsRow.lt h.di k hk).1; omega
  · have := (World.ownsRow.lt h.own k hk).1; omega
theorem ObX.push (h : ObX wr w M v0 vs zss bx qv fv sv dv dl ms b5 b6 ov os) {w7 : World} {v7 : Value} {os7 : List Int} (hO : OwnI w7 b6 v7 os7) (hb : Below b6 wr w7) (hsp : Spares wr w7 ov) (hat : v7.ownBlock = ov.ownBlock ∨ v7.ownBlock = some wr.heap.size) : ObX w7 w M v0 vs zss bx qv fv sv dv dl ms b5 b6 v7 os7 := by
  have hg6 := h.g6
  refine ⟨h.out.same fun k hk => hb.block k (h.olt k hk), h.ne, (hb.block _ (by omega)).trans h.mach, (hb.block _ (by omega)).trans h.met, (hsp _ h.tb.lt (fun e => h.ox e.symm)).trans h.tb, owns_same h.di fun k hk => hb.block k (h.dlt k hk), hO, h.low.trans (below_le hb (by omega)), h.g5, hg6, h.gx, h.dlt, h.olt, fun e => ?_⟩
  rcases hat with e2 | e2
  · exact h.ox (e2 ▸ e)
  · rw [e2] at e
    have h1 := h.tb.lt
    have h2 : wr.heap.size = bx := by simpa using e
    omega
end

set_option maxRecDepth 100000 in
set_option maxHeartbeats 4000000 in
theorem l05Orbits_calls (M : Mach) (L S : Nat) (hg : Good M L S) (n : Nat) (N : Nat) (hN : L ^ n = N) (hN2 : N ≤ 1000) (b : Nat) (v : Value) (vs0 : List Value) (w : World) (hv : OwnLV w b v vs0 (tbB M L S n S)) :
    Calls Try.prog 29 #[.agg (mc M), v] w fun e w' => ∃ v1 vs1, e = .returned v1 ∧ OwnLV w' w.heap.size v1 vs1 (orbsL (fwd M L n S ++ bwd M L S n S) N N) ∧ Below w.heap.size w w' := by
  have hok := hg.ok
  have hS1 := hg.S1
  have F1 : Hid (cut (mc M) 0 98 = mc M) := Lib.hid (cut_all _ _ (mc_size hok)); have F2 : Hid (0 + 98 ≤ (mc M).size) := Lib.hid (by rw [mc_size hok]; omega)
  have hB : Blk (w.alloc (.cells (mc M) 29)) w.heap.size (mc M) 29 := Blk.new w _ _
  have hbw0 : Below w.heap.size w (w.alloc (.cells (mc M) 29)) := by (repeat (first | exact Below.refl _ _ | refine below_drew' ?_ | refine below_drewN' ?_ _ | refine below_alloc' ?_ _ | refine below_set' ?_ (by (try simp); (try omega)) _ | refine below_step ?_ (by assumption)))
  have HGr := Lib.hid (fun (k : Nat) (hk : k < N) (W : World) (h : OwnLV W b v vs0 (tbB M L S n S)) => l05Grow_calls M L S hg n N hN hN2 k hk b v vs0 W h)
  have hz := zero_tre
  have hmk := mk_bls N (by omega)
  have H4 : Hid (∀ q f s d, (tre q f s d).size = 4) := Lib.hid (fun _ _ _ _ => rfl)
  have H40 : Hid (tre0.size = 4) := Lib.hid rfl
  have H4o : Hid (∀ q f s d, over tre0 0 (tre q f s d) = tre q f s d) := Lib.hid (fun q f s d => over_all _ _ rfl)
  have H4c : Hid (∀ q f s d, (tre q f s d)[3]? = some d) := Lib.hid (fun _ _ _ _ => rfl)
  have hlen0 : (tbB M L S n S).length = S + S := tbB_len _ _ _ _ _
  have h0 : 0 < (tbB M L S n S).length := by omega
  have hv0 : 0 < vs0.length := by have := hv.len; omega
  have hu0 := hv.own 0 hv0 h0
  have hN0 : (tbB M L S n S)[0].length = N := by
    rw [tab_at M L S n 0 (by rw [List.length_append, fwd_len]; omega) h0, List.getElem_append_left (by rw [fwd_len]; omega)]
    simp [fwd, permL_len, hN]
  obtain ⟨ou0, cu0, hue, hqq⟩ := hu0.view
  rw [hN0] at hue
  obtain ⟨oa, ca, hve, hvq⟩ := hv.view
  obtain ⟨gv, hoa, hgv, hcv⟩ := hvq h0
  have cv := hcv 0 hv0
  rw [hue] at cv
  have hgl : gv < w.heap.size := (hv.lt gv (.inl (by rw [hve, hoa]; rfl))).2
  have cvb := (hbw0.cell (p := ⟨gv, 0, none⟩) hgl).trans cv
  have HV := Lib.hid hv
  subst hoa
  rw [hve] at HGr HV ⊢
  have hlp : (0 : Int) < ((tbB M L S n S).length : Int) := by omega
  clear hcv hvq hqq hu0 hue hN0 cv hve hv hlen0
  generalize hPs : fwd M L n S ++ bwd M L S n S = Ps at *
  clear hPs
  generalize tbB M L S n S = tb at *
  have hB1 := (hB.alloc (.cells #[] 36)).alloc (.cells (bls (List.replicate N false)) 4)
  have hE1 : OwnLV ((((w.alloc (.cells (mc M) 29)).alloc (.cells #[] 36))).alloc (.cells (bls (List.replicate N false)) 4)) (w.heap.size + 1) (.slice (some ⟨w.heap.size + 1, 0, none⟩) 0 0) [] (orbsL Ps N 0) := OwnLV.empty (Nat.le_refl _) (by unfold maxLen; omega) rfl ((Blk.new_at (w.alloc (.cells (mc M) 29)) #[] 36 (w.heap.size + 1) (by simp)).alloc _)
  have hC1 : Blk ((((w.alloc (.cells (mc M) 29)).alloc (.cells #[] 36))).alloc (.cells (bls (List.replicate N false)) 4)) (w.heap.size + 1 + 1) (bls (metL (orbsL Ps N 0) N)) 4 := by
    rw [show orbsL Ps N 0 = [] from rfl, metL_nil]
    exact Blk.new_at _ _ _ _ (by simp)
  have hbw1 := below_alloc' (below_alloc' hbw0 (.cells #[] 36)) (.cells (bls (List.replicate N false)) 4)
  have hne1 : ¬ inLV (.slice (some ⟨w.heap.size + 1, 0, none⟩) 0 0) [] (w.heap.size + 1 + 1) := by
    rintro (h | ⟨x, hx, _⟩)
    · simp [Value.ownBlock] at h
    · cases hx
  go_enter Try.func29, Try.ntmps29
  go_wp2
  clear hB hbw0 cvb hmk
  go_loopw [6, 8] (fun ov i wr => ∃ (k : Nat) (v0 : Value) (vs : List Value), k ≤ N ∧ i = .int .i64 k ∧ v0 = ov ∧ OwnLV wr (w.heap.size + 1) v0 vs (orbsL Ps N k) ∧ ¬ inLV v0 vs (w.heap.size + 1 + 1) ∧ Blk wr w.heap.size (mc M) 29 ∧ Blk wr (w.heap.size + 1 + 1) (bls (metL (orbsL Ps N k) N)) 4 ∧ w.heap.size + 3 ≤ wr.heap.size ∧ Below w.heap.size w wr) (fun _ i _ => N - (intOf i).toNat)
  case atStart => exact ⟨0, _, [], by omega, rfl, rfl, hE1, hne1, hB1, hC1, by simp, hbw1⟩
  case round =>
    clear hE1 hne1 hB1 hC1 hbw1
    obtain ⟨k, v0, vs, hk, rfl, rfl, hO, hne, hM, hC, hge, hbw⟩ := hrel
    obtain ⟨w4, rfl⟩ : ∃ x, x = wr := ⟨_, rfl⟩
    by_cases hlt : k < N
    · have hki : (k : Int) < (N : Int) := by omega
      have hln := orbsL_len Ps N k
      have Hs := Lib.hid (orbsL_succ Ps N k)
      have cC := hC.cell k
      rw [bls_at _ _ (by rw [metL_len]; exact hlt), metL_at _ _ _ hlt] at cC
      generalize orbsL Ps N k = zss at *
      generalize hab : anyO zss k = ab at *
      clear hab
      cases ab
      · have hv4 := HV.out.below hbw
        have HG4 := Lib.hid (HGr.out k hlt w4 hv4)
        have HTz := Lib.hid (fun T => metP_zero zss T N)
        have HTi := Lib.hid (fun T i (h : i ∈ wds T) => metP_in zss T N i h)
        have HTo := Lib.hid (fun T i (h : i ∉ wds T) => metP_out zss T N i h)
        have HTa := Lib.hid (fun T => metP_all zss T N)
        have Hn : Hid (orbsL Ps N (k + 1) = zss ++ [orbL (treeT Ps N k) N]) := Lib.hid (by rw [Hs.out]; rfl)
        generalize treeT Ps N k = T0 at *
        go_wp2_with (first | (with_reducible show wpList _ _ _ _ _ _; refine wpList_load_blk rfl 29 (.tmp 2) rfl w.heap.size 0 rfl (mc M) _ (hM) 98 F2.out _ Try.underlying29 rfl size_mach ?_; rw [F1.out]) | (go_at_call 35; refine HG4.out.mono ?_; rintro e w5 ⟨qv, fv, sv, dv, T, rfl, hTe, hTok, hq5, hf5, hs5, hd5, hb5⟩; have HTe := Lib.hid hTe; clear hTe; have hd5l := World.ownsRow.lt hd5; obtain ⟨o1, c1, rfl, q1⟩ := hq5.view; obtain ⟨o2, c2, rfl, q2⟩ := hf5.view; obtain ⟨o3, c3, rfl, q3⟩ := hs5.view; obtain ⟨o4, c4, rfl, q4⟩ := hd5.view; clear q1 q2 q3 q4; have HD := Lib.hid hd5.sees; have hX5 : Blk ((w5.alloc (.cells #[] 2)).alloc (.cells tre0 59)) (w5.heap.size + 1) tre0 59 := Blk.new_at _ _ _ _ (by simp); have hbz := hb5.size) | (with_reducible show wpList _ _ _ _ _ _; refine wpList_store_row rfl 59 (.tmp 9) _ rfl (w5.heap.size + 1) 0 (tre (.slice o1 (wdsI T).length c1) (.slice o2 (fromL N T).length c2) (.slice o3 (stpL N T).length c3) (.slice o4 (distL N T).length c4)) rfl rfl _ _ hX5 (by rw [H4.out, H40.out]; omega) (by rw [H4.out]; exact size_tre) (tre_slices _ _ _ _ _ _ _ _ _ _ _ _) _ (H4o.out _ _ _ _) ?_; intro w6 hs6))
        have hb56 : Below w5.heap.size w5 w6 := hs6.below _ _ (by omega) (by (repeat (first | exact Below.refl _ _ | refine below_drew' ?_ | refine below_drewN' ?_ _ | refine below_alloc' ?_ _ | refine below_set' ?_ (by (try simp); (try omega)) _ | refine below_step ?_ (by assumption))))
        have hE6 : Blk w6 w5.heap.size #[] 2 := hs6.keep (by omega) ((Blk.new w5 #[] 2).alloc _)
        have hOw6 : OwnI w6 w5.heap.size (.slice (some ⟨w5.heap.size, 0, none⟩) 0 0) (orbL T 0) := by
          rw [orbL_zero]
          exact ⟨by simp, .inr ⟨w5.heap.size, 0, #[], rfl, Nat.le_refl _, hE6, by simp, by unfold maxLen; omega, by simp, by simp⟩⟩
        have hC6 := (hC.keptAll hb5).keptAll hb56
        rw [← HTz.out T] at hC6
        have hX6 : ObX w6 w M v0 vs zss (w5.heap.size + 1) (.slice o1 (wdsI T).length c1) (.slice o2 (fromL N T).length c2) (.slice o3 (stpL N T).length c3) (.slice o4 (distL N T).length c4) (distL N T) (metP zss T N 0) w4.heap.size w5.heap.size (.slice (some ⟨w5.heap.size, 0, none⟩) 0 0) (orbL T 0) :=
          ⟨(hO.below hb5).below hb56, hne, (hM.keptAll hb5).keptAll hb56, hC6, hs6.blk, hd5.below hb56, hOw6, below_step (below_step hbw hb5) hb56, hge, by omega, by omega, fun k hk => (hd5l k hk).2, fun k hk => by have := (hO.lt k hk).2; omega, by simp [Value.ownBlock]⟩
        have hdlen := distL_len N T
        have HDM := Lib.hid (fun x hx => dist_met (N := N) (T := T) x hx)
        have hOl := hO.lt
        clear hO hM hC hbw hs6 hX5 hb56 hE6 hOw6 hC6 hd5 hf5 hs5 hq5 HD hb5 hv4 HG4 cC
        generalize w5.heap.size + 1 = bx at *
        generalize w5.heap.size = b6 at *
        generalize w4.heap.size = b5 at *
        generalize (Value.slice o1 (wdsI T).length c1) = qv at *
        generalize (Value.slice o2 (fromL N T).length c2) = fv at *
        generalize (Value.slice o3 (stpL N T).length c3) = sv at *
        generalize distL N T = dl at *
        have Hdl := Lib.hid hdlen
        clear hdlen
        go_loopw [10, 11] (fun uv iv wr => ∃ (i : Nat) (ov : Value), i ≤ N ∧ iv = .int .i64 i ∧ uv = ov ∧ ObX wr w M v0 vs zss bx qv fv sv (.slice o4 dl.length c4) dl (metP zss T N i) b5 b6 ov (orbL T i)) (fun _ iv _ => N - (intOf iv).toNat)
        case atStart => exact ⟨0, _, by omega, rfl, rfl, hX6⟩
        case round =>
          clear hX6
          obtain ⟨i, ov, hi, rfl, rfl, X⟩ := hrel
          obtain ⟨w7, rfl⟩ : ∃ x, x = wr := ⟨_, rfl⟩
          by_cases hli : i < N
          · have hii : (i : Int) < (N : Int) := by omega
            have hil : i < dl.length := by rw [Hdl.out]; exact hli
            have hdi : (i : Int) < (dl.length : Int) := by omega
            have ct := X.tb.cell 3
            rw [H4c.out] at ct
            obtain ⟨gd, h1, _, cd⟩ := (X.di.sees).at i hil
            subst h1
            obtain ⟨_, hm1, hm2⟩ := HDM.out i hli
            have Ho := Lib.hid (orbL_succ T i)
            have hol := orbL_len T i
            obtain ⟨o0, c0, hve, hvq⟩ := X.own.view
            clear hvq
            subst hve
            by_cases hin : i ∈ wds T
            · have hz := hm1 hin
              have Hin := Lib.hid hin
              have Ho2 : Hid (orbL T (i + 1) = orbL T i ++ [(i : Int)]) := Lib.hid (by rw [Ho.out, if_pos hin])
              have X1 := X.put i true
              rw [HTi.out T i hin] at X1
              have X2 := X1.keep (w1 := (w7.setCell ⟨w.heap.size + 1 + 1, i, none⟩ (.bool true)).alloc (.cells #[.int .i64 (i : Int)] 2)) (by (repeat (first | exact Below.refl _ _ | refine below_drew' ?_ | refine below_drewN' ?_ _ | refine below_alloc' ?_ _ | refine below_set' ?_ (by (try simp); (try omega)) _ | refine below_step ?_ (by assumption))))
              have hmc := X.met.cell i
              have hmf := X.met.free
              have hml : (bls (metP zss T N i))[i]? = some ((bls (metP zss T N i))[i]'(by simp [bls, metP_len]; exact hli)) := Array.getElem?_eq_getElem _
              generalize (bls (metP zss T N i))[i]'(by simp [bls, metP_len]; exact hli) = old at hml
              rw [hml] at hmc
              have hsz : b6 ≤ (w7.setCell ⟨w.heap.size + 1 + 1, i, none⟩ (.bool true)).heap.size := by have h1 := X1.tb.lt; have h2 := X1.gx; omega
              have HX2 := Lib.hid X2
              clear hm1 hm2 hin X X1 X2 hml
              generalize dl[i] = z at *
              generalize orbL T i = os at *
              go_wp2_with (at_builtin; refine wpList_push_int_at rfl (.tmp 47) (.tmp 49) rfl b6 _ os rfl HX2.out.own w7.heap.size 1 (i : Int) rfl (Blk.new_at _ _ _ _ (by simp)) (by omega) (by have := hsz; simp at this ⊢; omega) ?_; intro v8 w8 hO8 hb8 hsp8 hat8)
              go_roundw
              case rel => exact ⟨i + 1, v8, by omega, by go_num, rfl, by rw [Ho2.out]; exact HX2.out.push hO8 hb8 hsp8 hat8⟩
              case measure => simp [intOf] <;> omega
            · have hz := hm2 hin
              have Ho2 : Hid (orbL T (i + 1) = orbL T i) := Lib.hid (by rw [Ho.out, if_neg hin, List.append_nil])
              have Hm : Hid (metP zss T N (i + 1) = metP zss T N i) := Lib.hid (HTo.out T i hin)
              have HX := Lib.hid X
              clear hm1 hm2 hin X
              rw [hz] at cd
              go_wp2
              go_roundw
              case rel => exact ⟨i + 1, _, by omega, by go_num, rfl, by rw [Ho2.out, Hm.out]; exact HX.out⟩
              case measure => simp [intOf] <;> omega
          · obtain rfl : i = N := by omega
            obtain ⟨o0, c0, hve, hvq⟩ := X.own.view
            clear hvq
            subst hve
            have Xo := X.out
            have Xu := X.own
            have Xul := Lib.hid (World.ownsRow.lt Xu)
            have Xne := X.ne
            have Xol := Lib.hid X.olt
            have g6 := X.g6
            have gx := X.gx
            have hszw := X.tb.lt
            have hmet := X.met
            have hma := X.mach
            have hlow := X.low
            rw [HTa.out T, HTe.out, ← Hn.out] at hmet
            have hlT : (orbL T i).length = (orbL T0 i).length := by rw [HTe.out]
            rw [HTe.out] at Xu Xul
            rw [hlT]
            have hX7 : (Value.slice o0 (orbL T0 i).length c0) = Value.slice o0 (orbL T0 i).length c0 := rfl
            clear hX7 X hlT
            generalize orbL T0 i = os at *
            have hO8 := Xo.below (w1 := w7.alloc (.cells #[.slice o0 os.length c0] 36)) (by (repeat (first | exact Below.refl _ _ | refine below_drew' ?_ | refine below_drewN' ?_ _ | refine below_alloc' ?_ _ | refine below_set' ?_ (by (try simp); (try omega)) _ | refine below_step ?_ (by assumption))))
            have hU8 := (Xu.below (w1 := w7.alloc (.cells #[.slice o0 os.length c0] 36)) (by (repeat (first | exact Below.refl _ _ | refine below_drew' ?_ | refine below_drewN' ?_ _ | refine below_alloc' ?_ _ | refine below_set' ?_ (by (try simp); (try omega)) _ | refine below_step ?_ (by assumption))))).base_le' (base' := w.heap.size + 1) (by omega)
            have hM8 := hma.alloc (.cells #[.slice o0 os.length c0] 36)
            have hC8 := hmet.alloc (.cells #[.slice o0 os.length c0] 36)
            have hw8 := below_alloc' hlow (.cells #[.slice o0 os.length c0] 36)
            have Xlt := Lib.hid Xo.lt
            clear Xo Xu hma hmet hlow
            go_wp2_with (at_builtin; refine wpList_push_list rfl (.tmp 51) (.tmp 53) rfl (w.heap.size + 1) _ vs zss rfl hO8 w7.heap.size 1 (.slice o0 os.length c0) os rfl (Blk.new w7 _ _) hU8 (fun q h1 h2 => by have q1 := (Xul.out q h1).1; have q2 := Xol.out q h2; omega) (by omega) (by simp; omega) ?_; intro v8 w8 hO9 hb8 hsp8 hat8)
            have hs8 := hb8.size
            simp at hs8
            have hM9 : Blk w8 w.heap.size (mc M) 29 := (hsp8 _ hM8.lt (fun e => by have := (Xlt.out _ (.inl e.symm)).1; omega)).trans hM8
            have hC9 : Blk w8 (w.heap.size + 1 + 1) (bls (metL (orbsL Ps i (k + 1)) i)) 4 := (hsp8 _ hC8.lt (fun e => Xne (.inl e.symm))).trans hC8
            have hne9 : ¬ inLV v8 (vs ++ [.slice o0 os.length c0]) (w.heap.size + 1 + 1) := fun h => (inLV_push h).elim (fun h => hat8.elim (fun e => Xne (.inl (e ▸ h))) (fun e => by rw [e] at h; simp at h; omega)) (fun h => h.elim Xne (fun h => by have := (Xul.out _ h).1; omega))
            go_roundw
            case rel => exact ⟨k + 1, v8, vs ++ [.slice o0 os.length c0], by omega, by go_num, rfl, by rw [Hn.out]; exact hO9, hne9, hM9, hC9, by omega, hw8.trans (below_le hb8 (by omega))⟩
            case measure => simp [intOf] <;> omega
      · go_wp2
        go_roundw
        case rel => exact ⟨k + 1, _, vs, by omega, by go_num, rfl, by rw [Hs.out]; exact hO, hne, hM, by rw [Hs.out]; exact hC, hge, hbw⟩
        case measure => simp [intOf] <;> omega
    · obtain rfl : k = N := by omega
      go_wp2
      go_ret
      exact ⟨_, vs, rfl, hO.base_le (by omega), hbw⟩
end Go.Proofs.Yticnpajbefflbab
