/- 'classesOf': the sets of equal states. -/
import Derived.Test.YtdbdoohcpcjfdaaMinN
namespace Go.Proofs.Ytdbdoohcpcjfdaa
open Go.RowKit
open Go.Maps

theorem plainElem_bool_inv {H : Type} {P : Program} {e : TypeId} (he : P.underlying e = some .bool) {v : Value} {z : DataW H × List MemPlace} (h : plainElem P e v = some z) : ∃ x, v = .bool x ∧ z = (.lit (.bool x), []) := by
  cases v with
  | bool x => simp [plainElem, he] at h; exact ⟨x, rfl, h.symm⟩
  | _ => simp [plainElem, he] at h
theorem zero_bool : ∀ w, (zeroValue 4).run Try.prog w = .ok (.bool false) w := (zero_of_info (show (Try.prog.info? 4).map (fun i => (i.zero, i.size)) = some (some (.bool false), 1) from by kernel_rfl)).1
/-- The map of views. -/
def OwnViews (w : World) (b n : Nat) (D : DataW Unit) : Prop := w.ownsMap Try.prog 28 (plainElem Try.prog 4) b n D
theorem OwnViews.keep {w w' : World} {b n : Nat} {D : DataW Unit} (h : OwnViews w b n D) (e : w'.heap[b]? = w.heap[b]?) : OwnViews w' b n D := by
  obtain ⟨es, clock, hb, r⟩ := h
  exact ⟨es, clock, e.trans hb, r⟩
section
variable {ops : Array Oper} {rest : List Oper} {o : Oper} {a : Act} {w : World} {Q : Exit → Act → World → Prop}
/-- 'seen[view]'. -/
theorem wpList_look_view (hg : o.guard = none) (m x : Operand) (hop : o.op = Op.lookup 105 m x false) (b n : Nat) (D : DataW Unit) (hm : a.eval m = .map (some b)) (hown : OwnViews w b n D) (V : Mach) (hV : V.Ok) (hx : a.eval x = .agg (mc V))
    (r : Bool) (hr : D.atKey (klM V) (.lit (.bool false)) = .lit (.bool r)) (hK : wpList Try.prog ops Q rest (a.put o.dst (.bool r)) w) : wpList Try.prog ops Q (o :: rest) a w := by
  refine wpList_plain hg fun K' hK' => ?_
  obtain ⟨v, ps, hrun, hv⟩ := World.ownsMap.lookup hown keyed_mach Try.underlying105 (zero_bool w) (plainElem_bool Try.underlying4 false) (key_mach hV)
  obtain ⟨y, rfl, hz⟩ := plainElem_bool_inv Try.underlying4 hv
  have hy : y = r := by
    have h1 := congrArg Prod.fst hz
    rw [hr] at h1
    simp at h1
    exact h1.symm
  subst hy
  unfold Oper.wp
  simp [execOp, hop, hm, hx, hrun, Result.andThen]
  exact hK' _ _ hK
end

set_option maxRecDepth 100000 in
set_option maxHeartbeats 2000000 in
theorem classesOf_calls (M : Mach) (L S : Nat) (hg : Good M L S) (w : World) :
    Calls Try.prog 72 #[.agg (mc M)] w fun e w' => (∃ t, Still M L S t ∧ e = .returned (.agg (c8 (clsU M L S t)))) ∧ Below w.heap.size w w' := by
  have hok := hg.ok
  have hS16 := hg.S16
  have hz := zero_c16
  have hzm := zero_mach
  have hmm := @run_makeMap Try.prog
  let W0 := (((w.alloc (.cells (mc M) 28)).alloc (.cells (c8 zer) 91)).alloc (.cells (c8 zer) 91)).alloc (.map #[] 0)
  have hB1 : Blk W0 w.heap.size (mc M) 28 := (((Blk.new w _ _).alloc _).alloc _).alloc _
  have hR1 : Blk W0 (w.heap.size + 1) (c8 zer) 91 := ((Blk.new_at _ _ _ _ (by simp)).alloc _).alloc _
  have hN1 : Blk W0 (w.heap.size + 1 + 1) (c8 zer) 91 := (Blk.new_at _ _ _ _ (by simp)).alloc _
  have hM1 : OwnViews W0 (w.heap.size + 1 + 1 + 1) 0 (.map []) := by
    have := World.ownsMap_made (H := Unit) (((w.alloc (.cells (mc M) 28)).alloc (.cells (c8 zer) 91)).alloc (.cells (c8 zer) 91)) Try.prog 28 (plainElem Try.prog 4)
    simpa [OwnViews, W0] using this
  have hbel0 : Below w.heap.size w W0 := by show Below _ _ (World.alloc _ _); (repeat (first | exact Below.refl _ _ | refine below_drew' ?_ | refine below_drewN' ?_ _ | refine below_alloc' ?_ _ | refine below_set' ?_ (by (try simp); (try omega)) _ | refine below_step ?_ (by assumption)))
  have F1 : Hid (cut (mc M) 0 98 = mc M) := Lib.hid (cut_all _ _ (mc_size hok)); have F2 : Hid (0 + 98 ≤ (mc M).size) := Lib.hid (by rw [mc_size hok]; omega)
  have Hzs : Hid ((mc zeroM).size = 98) := Lib.hid (mc_size zeroM_ok)
  go_enter Try.func72, Try.ntmps72
  go_wp2
  clear hz hmm
  go_loopg [] (S + 3) (fun gk wr => ∃ (t : Nat) (D : DataW Unit), gk + t = S + 3 ∧ Blk wr w.heap.size (mc M) 28 ∧ Blk wr (w.heap.size + 1) (c8 zer) 91 ∧ Blk wr (w.heap.size + 1 + 1) (c8 (clsU M L S t)) 91 ∧ OwnViews wr (w.heap.size + 1 + 1 + 1) t D ∧ Below w.heap.size w wr ∧ Hid (t ≤ S + 2 ∧ ViewMap M L S t D))
  case atStart => exact ⟨0, _, by omega, hB1, hR1, by rw [clsU_zero]; exact hN1, hM1, hbel0, Lib.hid ⟨by omega, ViewMap.start M L S⟩⟩
  case round =>
    clear hB1 hR1 hN1 hM1 hbel0
    obtain ⟨t, D, htk, hB, hR, hN, hM, hbw, HD⟩ := hrel
    have hcl := clsU_len M L S t
    have hcb := clsU_bytes M L S t
    have Hcs : Hid ((c8 (clsU M L S t)).size = 16) := Lib.hid (by rw [c8_size, hcl])
    have Hcc : Hid (cut (c8 (clsU M L S t)) 0 16 = c8 (clsU M L S t)) := Lib.hid (cut_all _ _ Hcs.out)
    have hvo := vw_ok hg t
    have Hvs := Lib.hid (mc_size hvo)
    have Hvc : Hid (cut (mc (vw M L S t)) 0 98 = mc (vw M L S t)) := Lib.hid (cut_all _ _ Hvs.out)
    have Hov : Hid (over (mc zeroM) 0 (mc (vw M L S t)) = mc (vw M L S t)) := Lib.hid (over_all _ _ (by rw [Hzs.out, Hvs.out]))
    have HatD := Lib.hid (HD.out.2.at' t)
    have HF := Lib.hid (withClasses_calls M L S hg (clsU M L S t) hcl hcb)
    have Htk := Lib.hid htk
    have hltM : w.heap.size + 1 + 1 + 1 < wr.heap.size := World.ownsMap.lt hM
    clear htk hcl hcb
    cases hsn : seenV M L S t t
    · rw [hsn] at HatD
      have ht1 := seen_soon hg HD.out.1 hsn
      have HF2 := Lib.hid (numberRows_calls M L S t hS16 (vw M L S t) hvo ((vw_keeps M L S t).2.1.trans hg.hS) (vw_rows hg t))
      have Hpl : Hid (plainElem (H := Unit) Try.prog 4 (.bool true) = some (.lit (.bool true), [])) := Lib.hid (plainElem_bool Try.underlying4 true)
      have Hkm := Lib.hid (key_mach hvo)
      have Hcl2 : Hid ((c8 (clsU M L S (t + 1))).size = 16) := Lib.hid (by rw [c8_size, clsU_len])
      have Hov2 : Hid (over (c8 (clsU M L S t)) 0 (c8 (clsU M L S (t + 1))) = c8 (clsU M L S (t + 1))) := Lib.hid (over_all _ _ (by rw [Hcs.out, Hcl2.out]))
      have Ht1 := Lib.hid ht1
      clear ht1
      go_wp2_with (first | (with_reducible show wpList _ _ _ _ _ _; refine wpList_load_blk rfl 28 (.tmp 1) rfl w.heap.size 0 rfl (mc M) _ (hB) 98 F2.out _ Try.underlying28 rfl size_mach ?_; rw [F1.out]) | (with_reducible show wpList _ _ _ _ _ _; refine wpList_load_blk rfl 91 (.tmp 3) rfl (w.heap.size + 1 + 1) 0 rfl (c8 (clsU M L S t)) _ (by first | exact hN2 | exact hN) 16 (by rw [Hcs.out]; omega) _ Try.underlying91 rfl size_c16 ?_; rw [Hcc.out]) | (go_at_call 73; refine (HF.out _).mono ?_; rintro e w1 ⟨rfl, hb1⟩; have hB1 := (hB.keptAll hb1).alloc (.cells (mc zeroM) 28); have hR1 := (hR.keptAll hb1).alloc (.cells (mc zeroM) 28); have hN1 := (hN.keptAll hb1).alloc (.cells (mc zeroM) 28); have hM1 : OwnViews (w1.alloc (.cells (mc zeroM) 28)) (w.heap.size + 1 + 1 + 1) t D := World.ownsMap.alloc (hM.keep (hb1.block _ hltM)) _; have hbw1 := below_alloc' (below_step hbw hb1) (.cells (mc zeroM) 28); have hZ1 : Blk (w1.alloc (.cells (mc zeroM) 28)) w1.heap.size (mc zeroM) 28 := Blk.new _ _ _; have hge1 := hb1.size) | (with_reducible show wpList _ _ _ _ _ _; refine wpList_store_row rfl 28 (.tmp 5) (.tmp 9) rfl w1.heap.size 0 (mc (vw M L S t)) rfl rfl _ _ hZ1 (by rw [Hzs.out, Hvs.out]; omega) (by rw [Hvs.out]; exact size_mach) (mc_one _) _ Hov.out ?_; intro w2 hs2; have hV2 := hs2.blk; have hB2 := hs2.keep (by omega) hB1; have hR2 := hs2.keep (by omega) hR1; have hN2 := hs2.keep (by omega) hN1; have hM2 : OwnViews w2 (w.heap.size + 1 + 1 + 1) t D := hM1.keep (hs2.other _ (by omega)); have hbw2 := hs2.below _ _ (by omega) hbw1) | (with_reducible show wpList _ _ _ _ _ _; refine wpList_load_blk rfl 28 (.tmp 5) rfl w1.heap.size 0 rfl (mc (vw M L S t)) _ (by first | exact hV3 | exact hV2) 98 (by rw [Hvs.out]; omega) _ Try.underlying28 rfl size_mach ?_; rw [Hvc.out]) | (at_lookup; refine wpList_look_view rfl _ _ rfl (w.heap.size + 1 + 1 + 1) t D rfl hM2 (vw M L S t) hvo rfl false HatD.out ?_) | (at_mapUpdate; refine wpList_mapUpdate_own _ rfl _ _ _ 105 rfl 28 4 keyed_mach Try.underlying105 _ (w.heap.size + 1 + 1 + 1) t D rfl hM2 (by have := Ht1.out; unfold maxLen; omega) _ _ (klM (vw M L S t)) rfl rfl Hkm.out (.lit (.bool true)) [] Hpl.out ?_; intro w3 hM3 hg3; have hV3 : Blk w3 w1.heap.size (mc (vw M L S t)) 28 := (hg3.block _ hV2.lt (fun e => by have := Option.some.inj e; omega)).trans hV2; have hB3 : Blk w3 w.heap.size (mc M) 28 := (hg3.block _ hB2.lt (fun e => by have := Option.some.inj e; omega)).trans hB2; have hR3 : Blk w3 (w.heap.size + 1) (c8 zer) 91 := (hg3.block _ hR2.lt (fun e => by have := Option.some.inj e; omega)).trans hR2; have hN3 : Blk w3 (w.heap.size + 1 + 1) (c8 (clsU M L S t)) 91 := (hg3.block _ hN2.lt (fun e => by have := Option.some.inj e; omega)).trans hN2; have hbw3 : Below w.heap.size w w3 := hbw2.grown hg3 hbw2.size (fun j e => by cases e; omega); have hltM3 : w.heap.size + 1 + 1 + 1 < w3.heap.size := World.ownsMap.lt hM3) | (go_at_call 83; refine (HF2.out _).mono ?_; rintro e w4 ⟨rfl, hb4⟩; have hB4 := hB3.keptAll hb4; have hR4 := hR3.keptAll hb4; have hN4 := hN3.keptAll hb4; have hM4 : OwnViews w4 (w.heap.size + 1 + 1 + 1) (t + 1) _ := OwnViews.keep hM3 (hb4.block _ hltM3); have hbw4 := below_step hbw3 hb4) | (with_reducible show wpList _ _ _ _ _ _; refine wpList_store_row rfl 91 (.tmp 3) (.tmp 17) rfl (w.heap.size + 1 + 1) 0 (c8 (clsU M L S (t + 1))) rfl rfl _ _ hN4 (by rw [Hcs.out, Hcl2.out]; omega) (by rw [Hcl2.out]; exact size_c16) (c8_one _) _ Hov2.out ?_; intro w5 hs5))
      go_roundg (S + 2 - t)
      case measure => have := Htk.out; have := Ht1.out; omega
      case rel =>
        exact ⟨t + 1, _, by have := Ht1.out; omega, hs5.keep (by omega) hB4, hs5.keep (by omega) hR4, hs5.blk, OwnViews.keep hM4 (hs5.other _ (by omega)), hs5.below _ _ (by omega) hbw4, Lib.hid ⟨by have := Ht1.out; omega, HD.out.2.next hg (World.ownsMap.tidy hM2 keyed_mach).isMap⟩⟩
    · rw [hsn] at HatD
      have hst := seen_still hg hsn
      have Hzc : Hid ((c8 zer).size = 16) := Lib.hid (by rw [c8_size]; rfl)
      have Hov2 : Hid (over (c8 zer) 0 (c8 (clsU M L S t)) = c8 (clsU M L S t)) := Lib.hid (over_all _ _ (by rw [Hcs.out, Hzc.out]))
      go_wp2_with (first | (with_reducible show wpList _ _ _ _ _ _; refine wpList_load_blk rfl 28 (.tmp 1) rfl w.heap.size 0 rfl (mc M) _ (hB) 98 F2.out _ Try.underlying28 rfl size_mach ?_; rw [F1.out]) | (with_reducible show wpList _ _ _ _ _ _; refine wpList_load_blk rfl 91 (.tmp 3) rfl (w.heap.size + 1 + 1) 0 rfl (c8 (clsU M L S t)) _ (by first | exact hN2 | exact hN) 16 (by rw [Hcs.out]; omega) _ Try.underlying91 rfl size_c16 ?_; rw [Hcc.out]) | (go_at_call 73; refine (HF.out _).mono ?_; rintro e w1 ⟨rfl, hb1⟩; have hB1 := (hB.keptAll hb1).alloc (.cells (mc zeroM) 28); have hR1 := (hR.keptAll hb1).alloc (.cells (mc zeroM) 28); have hN1 := (hN.keptAll hb1).alloc (.cells (mc zeroM) 28); have hM1 : OwnViews (w1.alloc (.cells (mc zeroM) 28)) (w.heap.size + 1 + 1 + 1) t D := World.ownsMap.alloc (hM.keep (hb1.block _ hltM)) _; have hbw1 := below_alloc' (below_step hbw hb1) (.cells (mc zeroM) 28); have hZ1 : Blk (w1.alloc (.cells (mc zeroM) 28)) w1.heap.size (mc zeroM) 28 := Blk.new _ _ _; have hge1 := hb1.size) | (with_reducible show wpList _ _ _ _ _ _; refine wpList_store_row rfl 28 (.tmp 5) (.tmp 9) rfl w1.heap.size 0 (mc (vw M L S t)) rfl rfl _ _ hZ1 (by rw [Hzs.out, Hvs.out]; omega) (by rw [Hvs.out]; exact size_mach) (mc_one _) _ Hov.out ?_; intro w2 hs2; have hV2 := hs2.blk; have hB2 := hs2.keep (by omega) hB1; have hR2 := hs2.keep (by omega) hR1; have hN2 := hs2.keep (by omega) hN1; have hM2 : OwnViews w2 (w.heap.size + 1 + 1 + 1) t D := hM1.keep (hs2.other _ (by omega)); have hbw2 := hs2.below _ _ (by omega) hbw1) | (with_reducible show wpList _ _ _ _ _ _; refine wpList_load_blk rfl 28 (.tmp 5) rfl w1.heap.size 0 rfl (mc (vw M L S t)) _ (by first | exact hV3 | exact hV2) 98 (by rw [Hvs.out]; omega) _ Try.underlying28 rfl size_mach ?_; rw [Hvc.out]) | (at_lookup; refine wpList_look_view rfl _ _ rfl (w.heap.size + 1 + 1 + 1) t D rfl hM2 (vw M L S t) hvo rfl true HatD.out ?_) | (with_reducible show wpList _ _ _ _ _ _; refine wpList_store_row rfl 91 (.tmp 2) (.tmp 13) rfl (w.heap.size + 1) 0 (c8 (clsU M L S t)) rfl rfl _ _ hR2 (by rw [Hcs.out, Hzc.out]; omega) (by rw [Hcs.out]; exact size_c16) (c8_one _) _ Hov2.out ?_; intro w5 hs5))
      exact bodyPost_cell rfl rfl hs5.blk Try.underlying91 rfl (by rw [Hcs.out]; exact size_c16) rfl ⟨⟨t, hst, rfl⟩, hs5.below _ _ (by omega) hbw2⟩
end Go.Proofs.Ytdbdoohcpcjfdaa
