/- The model's 'l01Minimal'. -/
import Derived.Test.YtdbdoohcpcjfdaaMinG
import Derived.Test.YtdbdoohcpcjfdaaMinT
namespace Go.Proofs.Ytdbdoohcpcjfdaa
open Go.RowKit

theorem bodyPost_cells {P : Program} {fn : Func} {R : Ending → World → Prop} {a : Act} {w : World} {p u : Tmp} {ty ty' T T' : TypeId} (hf : fn.results = #[.cell p ty, .cell u ty']) {g g' : Nat} {cs cs' : Array Value} {d d' : TypeDesc} (hp : a.tmps.getD p undef = .pointer (some ⟨g, 0, none⟩)) (hp2 : a.tmps.getD u undef = .pointer (some ⟨g', 0, none⟩)) (hB : Blk w g cs T) (hB' : Blk w g' cs' T')
    (hu : P.underlying ty = some d) (hd : d.isRow = true) (hu' : P.underlying ty' = some d') (hd' : d'.isRow = true) (hi : (P.info? ty).map (·.size) = some cs.size) (hi' : (P.info? ty').map (·.size) = some cs'.size) (hdef : a.defers = []) (hR : R (.returned (.tuple #[.agg cs, .agg cs'])) w) : bodyPost P fn R .ret a w := by
  refine bodyPost_ret (v := .tuple #[.agg cs, .agg cs']) ?_ hdef hR
  have hl := loadVar_blk (P := P) hB hu hd hi
  have hl' := loadVar_blk (P := P) hB' hu' hd' hi'
  have hp' : a.tmps[p]?.getD undef = .pointer (some ⟨g, 0, none⟩) := by simpa using hp
  have hp2' : a.tmps[u]?.getD undef = .pointer (some ⟨g', 0, none⟩) := by simpa using hp2
  simp [results, hf, hp', hp2', asAddr, hl, hl']

set_option maxRecDepth 100000 in
set_option maxHeartbeats 4000000 in
theorem l01Minimal_calls (M : Mach) (L S : Nat) (hg : Good M L S) (w : World) :
    Calls Try.prog 82 #[.agg (mc M)] w fun e w' => e = .returned (.tuple #[.agg (mc (mnAll M L S S)), .agg (ints (numsZ M L S S))]) ∧ Below w.heap.size w w' := by
  have hok := hg.ok
  have hS16 := hg.S16
  have hS1 := hg.S1
  have hL3 := hg.L3
  have hcL := mc_L M
  have hcS := mc_S M
  rw [hg.hL] at hcL
  rw [hg.hS] at hcS
  have hz := zero_i16
  have hzm := zero_mach
  have F1 : Hid (cut (mc M) 0 98 = mc M) := Lib.hid (cut_all _ _ (mc_size hok)); have F2 : Hid (0 + 98 ≤ (mc M).size) := Lib.hid (by rw [mc_size hok]; omega)
  have Hg := Lib.hid hg
  have Hcs : Hid ((ints (clsS M L S (S + 1))).size = 16) := Lib.hid (by rw [ints_size, clsS_len])
  have Hz16 : Hid ((ints zer).size = 16) := Lib.hid (by rw [ints_size]; rfl)
  have Hco : Hid (over (ints zer) 0 (ints (clsS M L S (S + 1))) = ints (clsS M L S (S + 1))) := Lib.hid (over_all _ _ (by rw [Hcs.out, Hz16.out]))
  have Hzo : Hid (over (ints zer) 0 (ints zer) = ints zer) := Lib.hid (over_all _ _ rfl)
  have Hzs : Hid ((mc zeroM).size = 98) := Lib.hid (mc_size zeroM_ok)
  have hb0 := (mnAll_up hg 0 (by omega)).1.ok
  have Hbs : Hid ((mc (blankM (L : Int) 0)).size = 98) := Lib.hid (mc_size hb0)
  have Hbo : Hid (over (mc zeroM) 0 (mc (blankM (L : Int) 0)) = mc (blankM (L : Int) 0)) := Lib.hid (over_all _ _ (by rw [Hzs.out, Hbs.out]))
  clear hg hb0
  have hB1 : Blk (((w.alloc (.cells (mc M) 28)).alloc (.cells (mc zeroM) 28)).alloc (.cells (ints zer) 54)) w.heap.size (mc M) 28 := ((Blk.new w _ _).alloc _).alloc _
  have hR1 : Blk (((w.alloc (.cells (mc M) 28)).alloc (.cells (mc zeroM) 28)).alloc (.cells (ints zer) 54)) (w.heap.size + 1) (mc zeroM) 28 := (Blk.new_at _ _ _ _ (by simp)).alloc _
  have hN1 : Blk (((w.alloc (.cells (mc M) 28)).alloc (.cells (mc zeroM) 28)).alloc (.cells (ints zer) 54)) (w.heap.size + 1 + 1) (ints zer) 54 := Blk.new_at _ _ _ _ (by simp)
  have hbw1 : Below w.heap.size w (((w.alloc (.cells (mc M) 28)).alloc (.cells (mc zeroM) 28)).alloc (.cells (ints zer) 54)) := by show Below _ _ (World.alloc _ _); (repeat (first | exact Below.refl _ _ | refine below_drew' ?_ | refine below_drewN' ?_ _ | refine below_alloc' ?_ _ | refine below_set' ?_ (by (try simp); (try omega)) _ | refine below_step ?_ (by assumption)))
  go_enter Try.func82, Try.ntmps82
  go_wp2
  refine Code.wp_mono (Q := (fun e a W => match e with | .normal => ∃ g4 g5 g6 : Nat, (w.heap.size + 1 + 1 < g4 ∧ w.heap.size + 1 + 1 < g5 ∧ w.heap.size + 1 + 1 < g6 ∧ g4 ≠ g5 ∧ g4 ≠ g6 ∧ g5 ≠ g6) ∧ a = { tmps := #[Value.agg (mc M), Value.pointer (some ⟨w.heap.size, 0, none⟩), Value.pointer (some ⟨w.heap.size + 1, 0, none⟩), Value.pointer (some ⟨w.heap.size + 1 + 1, 0, none⟩), Value.pointer (some ⟨g4, 0, none⟩), Value.pointer (some ⟨g5, 0, none⟩), Value.pointer (some ⟨g6, 0, none⟩), undef, undef, undef, Value.agg (mc M), Value.agg (ints (clsS M L S (S + 1))), Value.agg (ints zer), Value.pointer (some ⟨w.heap.size, 0, none⟩), Value.int .i64 (L : Int), Value.agg (mc (blankM (L : Int) 0)), undef, undef, undef, undef, undef, undef, undef, undef, undef, undef, undef, undef, undef, undef, undef, undef, undef, undef, undef, undef, undef, undef, undef, undef, undef, undef, undef, undef, undef, undef, undef, undef, undef, undef, undef, undef, undef, undef, undef, undef, undef, undef, undef, undef, undef, undef, undef, undef, undef, undef, undef, undef, undef, undef, undef, undef, undef, undef, undef, undef, undef, undef, undef, undef, undef, undef, undef, undef, undef], defers := [] } ∧ (Blk W w.heap.size (mc M) 28 ∧ Blk W (w.heap.size + 1) (mc zeroM) 28 ∧ Blk W (w.heap.size + 1 + 1) (ints zer) 54) ∧ (Blk W g4 (ints (clsS M L S (S + 1))) 54 ∧ Blk W g5 (ints zer) 54 ∧ Blk W g6 (mc (blankM (L : Int) 0)) 28) ∧ Below w.heap.size w W | _ => False)) ?rest ?region
  case region =>
    have hB_0 := hB1.drew; have hR_0 := hR1.drew; have hN_0 := hN1.drew; have hb_0 := below_drew' hbw1
    clear hB1 hR1 hN1 hbw1
    have hbl := blank_set (L : Int)
    have hne : ¬ mc zeroM = #[] := fun e => by have := congrArg Array.size e; rw [mc_size zeroM_ok] at this; simp at this
    refine wp_region_held_drew (S := fun W => Blk W w.heap.size (mc M) 28) (by kernel_rfl) hB_0 (fun hS0 => ?_)
    generalize World.drew _ = wd at *
    (refine hK_load 0 rfl (by kernel_rfl) (by kernel_rfl) (by kernel_rfl) 28 _ rfl w.heap.size 0 rfl (mc M) _ (fun W hW => hW) 98 F2.out _ Try.underlying28 rfl size_mach _ F1.out (fun _ _ _ h => h) rfl hS0 ?_; (intro K hK; go_simp; refine hK _ ?_; clear hK K))
    (refine hK_take 2 (.agg (ints zer)) rfl (by kernel_rfl) (by kernel_rfl) (by kernel_rfl) (fun _ _ _ h => h) rfl (fun W _ => by go_simp) hS0 ?_; (intro K hK; go_simp; refine hK _ ?_; clear hK K))
    (refine hK_take 3 (.pointer (some ⟨w.heap.size, 0, none⟩)) rfl (by kernel_rfl) (by kernel_rfl) (by kernel_rfl) (fun _ _ _ h => h) rfl (fun W _ => by go_simp) hS0 ?_; (intro K hK; go_simp; refine hK _ ?_; clear hK K))
    (refine hK_take 4 (.int .i64 (L : Int)) rfl (by kernel_rfl) (by kernel_rfl) (by kernel_rfl) (fun _ _ _ h => h) rfl (fun W hW => by have cC := hW.cell; go_simp) hS0 ?_; (intro K hK; go_simp; refine hK _ ?_; clear hK K))
    (refine hK_take 5 (.agg (mc (blankM (L : Int) 0))) rfl (by kernel_rfl) (by kernel_rfl) (by kernel_rfl) (fun _ _ _ h => h) rfl (fun W _ => by go_simp) hS0 ?_; (intro K hK; go_simp; refine hK _ ?_; clear hK K))
    clear hS0
    refine wpAnyH_ready (rs := [1, 6, 7, 8]) (by kernel_rfl) (by simp) ?_
    refine (AllReadyH.cons rfl (fun K hK => ?_) (AllReadyH.cons rfl (fun K hK => ?_) (AllReadyH.cons rfl (fun K hK => ?_) (AllReadyH.cons rfl (fun K hK => ?_) AllReadyH.nil))))
    · go_simp
      refine (l01Classes_calls M L S Hg.out _).mono ?_
      rintro e W1 ⟨rfl, hc⟩
      have hB_1 := hB_0.keptAll hc
      have hR_1 := hR_0.keptAll hc
      have hN_1 := hN_0.keptAll hc
      have hb_1 := below_step hb_0 hc
      clear hc hB_0 hR_0 hN_0 hb_0
      go_simp
      refine hK.out _ _ hB_1 (fun hS => ?_)
      clear hK K
      refine wpAnyH_ready (rs := [6, 7, 8]) (by kernel_rfl) (by simp) ?_
      refine (AllReadyH.cons rfl (fun K hK => ?_) (AllReadyH.cons rfl (fun K hK => ?_) (AllReadyH.cons rfl (fun K hK => ?_) AllReadyH.nil)))
      · go_simp
        have hB_2 := hB_1.alloc (.cells (ints zer) 54)
        have hR_2 := hR_1.alloc (.cells (ints zer) 54)
        have hN_2 := hN_1.alloc (.cells (ints zer) 54)
        have hb_2 := below_alloc' hb_1 (.cells (ints zer) 54)
        have hG4_2 : Blk (W1.alloc (.cells (ints zer) 54)) W1.heap.size (ints zer) 54 := Blk.new _ _ _
        have o4 := hN_1.lt
        refine hK.out _ _ hB_2 (fun hS => ?_)
        clear hK K hB_1 hR_1 hN_1 hb_1
        generalize W1.alloc (.cells (ints zer) 54) = W2 at *
        generalize W1.heap.size = g4 at *
        refine wpAnyH_ready (rs := [7, 8]) (by kernel_rfl) (by simp) ?_
        refine (AllReadyH.cons rfl (fun K hK => ?_) (AllReadyH.cons rfl (fun K hK => ?_) AllReadyH.nil))
        · go_simp
          have hB_3 := hB_2.alloc (.cells (ints zer) 54)
          have hR_3 := hR_2.alloc (.cells (ints zer) 54)
          have hN_3 := hN_2.alloc (.cells (ints zer) 54)
          have hG4_3 := hG4_2.alloc (.cells (ints zer) 54)
          have hb_3 := below_alloc' hb_2 (.cells (ints zer) 54)
          have hG5_3 : Blk (W2.alloc (.cells (ints zer) 54)) W2.heap.size (ints zer) 54 := Blk.new _ _ _
          have o5 := hN_2.lt
          have o54 := hG4_2.lt
          refine hK.out _ _ hB_3 (fun hS => ?_)
          clear hK K hB_2 hR_2 hN_2 hG4_2 hb_2
          generalize W2.alloc (.cells (ints zer) 54) = W3 at *
          generalize W2.heap.size = g5 at *
          refine wpAnyH_ready (rs := [8]) (by kernel_rfl) (by simp) ?_
          refine (AllReadyH.cons rfl (fun K hK => ?_) AllReadyH.nil)
          · go_simp
            have hB_4 := hB_3.alloc (.cells (mc zeroM) 28)
            have hR_4 := hR_3.alloc (.cells (mc zeroM) 28)
            have hN_4 := hN_3.alloc (.cells (mc zeroM) 28)
            have hG4_4 := hG4_3.alloc (.cells (mc zeroM) 28)
            have hG5_4 := hG5_3.alloc (.cells (mc zeroM) 28)
            have hb_4 := below_alloc' hb_3 (.cells (mc zeroM) 28)
            have hG6_4 : Blk (W3.alloc (.cells (mc zeroM) 28)) W3.heap.size (mc zeroM) 28 := Blk.new _ _ _
            have o6 := hN_3.lt
            have o64 := hG4_3.lt
            have o65 := hG5_3.lt
            refine hK.out _ _ hB_4 (fun hS => ?_)
            clear hK K hB_3 hR_3 hN_3 hG4_3 hG5_3 hb_3
            generalize W3.alloc (.cells (mc zeroM) 28) = W4 at *
            generalize W3.heap.size = g6 at *
            refine hK_store 9 rfl (by kernel_rfl) rfl 54 _ _ rfl g4 0 (ints (clsS M L S (S + 1))) rfl rfl _ _ hG4_4 (by rw [Hcs.out, Hz16.out]; omega) (by rw [Hcs.out]; exact size_i16) (ints_one _) _ Hco.out (fun W5 hs => ⟨hs.keep (by omega) hB_4, fun hS => ?_⟩)
            (intro K hK; go_simp; refine hK _ ?_; clear hK K)
            have hB_5 := hs.keep (by omega) hB_4
            have hR_5 := hs.keep (by omega) hR_4
            have hN_5 := hs.keep (by omega) hN_4
            have hG4_5 := hs.blk
            have hG5_5 := hs.keep (by omega) hG5_4
            have hG6_5 := hs.keep (by omega) hG6_4
            have hb_5 := hs.below _ _ (by omega) hb_4
            clear hs hB_4 hR_4 hN_4 hG4_4 hG5_4 hG6_4 hb_4
            refine hK_store 10 rfl (by kernel_rfl) rfl 54 _ _ rfl g5 0 (ints zer) rfl rfl _ _ hG5_5 (by rw [Hz16.out]; omega) (by rw [Hz16.out]; exact size_i16) (ints_one _) _ Hzo.out (fun W6 hs => ⟨hs.keep (by omega) hB_5, fun hS => ?_⟩)
            (intro K hK; go_simp; refine hK _ ?_; clear hK K)
            have hB_6 := hs.keep (by omega) hB_5
            have hR_6 := hs.keep (by omega) hR_5
            have hN_6 := hs.keep (by omega) hN_5
            have hG4_6 := hs.keep (by omega) hG4_5
            have hG5_6 := hs.blk
            have hG6_6 := hs.keep (by omega) hG6_5
            have hb_6 := hs.below _ _ (by omega) hb_5
            clear hs hB_5 hR_5 hN_5 hG4_5 hG5_5 hG6_5 hb_5
            refine hK_store 11 rfl (by kernel_rfl) rfl 28 _ _ rfl g6 0 (mc (blankM (L : Int) 0)) rfl rfl _ _ hG6_6 (by rw [Hzs.out, Hbs.out]; omega) (by rw [Hbs.out]; exact size_mach) (mc_one _) _ Hbo.out (fun W7 hs => ⟨hs.keep (by omega) hB_6, fun hS => ?_⟩)
            (intro K hK; go_simp; refine hK _ ?_; clear hK K)
            have hB_7 := hs.keep (by omega) hB_6
            have hR_7 := hs.keep (by omega) hR_6
            have hN_7 := hs.keep (by omega) hN_6
            have hG4_7 := hs.keep (by omega) hG4_6
            have hG5_7 := hs.keep (by omega) hG5_6
            have hG6_7 := hs.blk
            have hb_7 := hs.below _ _ (by omega) hb_6
            clear hs hB_6 hR_6 hN_6 hG4_6 hG5_6 hG6_6 hb_6
            refine wpAnyH_done (by kernel_rfl) ?_ _
            exact ⟨g4, g5, g6, by omega, rfl, ⟨hB_7, hR_7, hN_7⟩, ⟨hG4_7, hG5_7, hG6_7⟩, hb_7⟩
        · go_simp
          have hB_3 := hB_2.alloc (.cells (mc zeroM) 28)
          have hR_3 := hR_2.alloc (.cells (mc zeroM) 28)
          have hN_3 := hN_2.alloc (.cells (mc zeroM) 28)
          have hG4_3 := hG4_2.alloc (.cells (mc zeroM) 28)
          have hb_3 := below_alloc' hb_2 (.cells (mc zeroM) 28)
          have hG6_3 : Blk (W2.alloc (.cells (mc zeroM) 28)) W2.heap.size (mc zeroM) 28 := Blk.new _ _ _
          have o6 := hN_2.lt
          have o64 := hG4_2.lt
          refine hK.out _ _ hB_3 (fun hS => ?_)
          clear hK K hB_2 hR_2 hN_2 hG4_2 hb_2
          generalize W2.alloc (.cells (mc zeroM) 28) = W3 at *
          generalize W2.heap.size = g6 at *
          refine wpAnyH_ready (rs := [7]) (by kernel_rfl) (by simp) ?_
          refine (AllReadyH.cons rfl (fun K hK => ?_) AllReadyH.nil)
          · go_simp
            have hB_4 := hB_3.alloc (.cells (ints zer) 54)
            have hR_4 := hR_3.alloc (.cells (ints zer) 54)
            have hN_4 := hN_3.alloc (.cells (ints zer) 54)
            have hG4_4 := hG4_3.alloc (.cells (ints zer) 54)
            have hG6_4 := hG6_3.alloc (.cells (ints zer) 54)
            have hb_4 := below_alloc' hb_3 (.cells (ints zer) 54)
            have hG5_4 : Blk (W3.alloc (.cells (ints zer) 54)) W3.heap.size (ints zer) 54 := Blk.new _ _ _
            have o5 := hN_3.lt
            have o54 := hG4_3.lt
            have o56 := hG6_3.lt
            refine hK.out _ _ hB_4 (fun hS => ?_)
            clear hK K hB_3 hR_3 hN_3 hG4_3 hG6_3 hb_3
            generalize W3.alloc (.cells (ints zer) 54) = W4 at *
            generalize W3.heap.size = g5 at *
            refine hK_store 9 rfl (by kernel_rfl) rfl 54 _ _ rfl g4 0 (ints (clsS M L S (S + 1))) rfl rfl _ _ hG4_4 (by rw [Hcs.out, Hz16.out]; omega) (by rw [Hcs.out]; exact size_i16) (ints_one _) _ Hco.out (fun W5 hs => ⟨hs.keep (by omega) hB_4, fun hS => ?_⟩)
            (intro K hK; go_simp; refine hK _ ?_; clear hK K)
            have hB_5 := hs.keep (by omega) hB_4
            have hR_5 := hs.keep (by omega) hR_4
            have hN_5 := hs.keep (by omega) hN_4
            have hG4_5 := hs.blk
            have hG5_5 := hs.keep (by omega) hG5_4
            have hG6_5 := hs.keep (by omega) hG6_4
            have hb_5 := hs.below _ _ (by omega) hb_4
            clear hs hB_4 hR_4 hN_4 hG4_4 hG5_4 hG6_4 hb_4
            refine hK_store 10 rfl (by kernel_rfl) rfl 54 _ _ rfl g5 0 (ints zer) rfl rfl _ _ hG5_5 (by rw [Hz16.out]; omega) (by rw [Hz16.out]; exact size_i16) (ints_one _) _ Hzo.out (fun W6 hs => ⟨hs.keep (by omega) hB_5, fun hS => ?_⟩)
            (intro K hK; go_simp; refine hK _ ?_; clear hK K)
            have hB_6 := hs.keep (by omega) hB_5
            have hR_6 := hs.keep (by omega) hR_5
            have hN_6 := hs.keep (by omega) hN_5
            have hG4_6 := hs.keep (by omega) hG4_5
            have hG5_6 := hs.blk
            have hG6_6 := hs.keep (by omega) hG6_5
            have hb_6 := hs.below _ _ (by omega) hb_5
            clear hs hB_5 hR_5 hN_5 hG4_5 hG5_5 hG6_5 hb_5
            refine hK_store 11 rfl (by kernel_rfl) rfl 28 _ _ rfl g6 0 (mc (blankM (L : Int) 0)) rfl rfl _ _ hG6_6 (by rw [Hzs.out, Hbs.out]; omega) (by rw [Hbs.out]; exact size_mach) (mc_one _) _ Hbo.out (fun W7 hs => ⟨hs.keep (by omega) hB_6, fun hS => ?_⟩)
            (intro K hK; go_simp; refine hK _ ?_; clear hK K)
            have hB_7 := hs.keep (by omega) hB_6
            have hR_7 := hs.keep (by omega) hR_6
            have hN_7 := hs.keep (by omega) hN_6
            have hG4_7 := hs.keep (by omega) hG4_6
            have hG5_7 := hs.keep (by omega) hG5_6
            have hG6_7 := hs.blk
            have hb_7 := hs.below _ _ (by omega) hb_6
            clear hs hB_6 hR_6 hN_6 hG4_6 hG5_6 hG6_6 hb_6
            refine wpAnyH_done (by kernel_rfl) ?_ _
            exact ⟨g4, g5, g6, by omega, rfl, ⟨hB_7, hR_7, hN_7⟩, ⟨hG4_7, hG5_7, hG6_7⟩, hb_7⟩
      · go_simp
        have hB_2 := hB_1.alloc (.cells (ints zer) 54)
        have hR_2 := hR_1.alloc (.cells (ints zer) 54)
        have hN_2 := hN_1.alloc (.cells (ints zer) 54)
        have hb_2 := below_alloc' hb_1 (.cells (ints zer) 54)
        have hG5_2 : Blk (W1.alloc (.cells (ints zer) 54)) W1.heap.size (ints zer) 54 := Blk.new _ _ _
        have o5 := hN_1.lt
        refine hK.out _ _ hB_2 (fun hS => ?_)
        clear hK K hB_1 hR_1 hN_1 hb_1
        generalize W1.alloc (.cells (ints zer) 54) = W2 at *
        generalize W1.heap.size = g5 at *
        refine wpAnyH_ready (rs := [6, 8]) (by kernel_rfl) (by simp) ?_
        refine (AllReadyH.cons rfl (fun K hK => ?_) (AllReadyH.cons rfl (fun K hK => ?_) AllReadyH.nil))
        · go_simp
          have hB_3 := hB_2.alloc (.cells (ints zer) 54)
          have hR_3 := hR_2.alloc (.cells (ints zer) 54)
          have hN_3 := hN_2.alloc (.cells (ints zer) 54)
          have hG5_3 := hG5_2.alloc (.cells (ints zer) 54)
          have hb_3 := below_alloc' hb_2 (.cells (ints zer) 54)
          have hG4_3 : Blk (W2.alloc (.cells (ints zer) 54)) W2.heap.size (ints zer) 54 := Blk.new _ _ _
          have o4 := hN_2.lt
          have o45 := hG5_2.lt
          refine hK.out _ _ hB_3 (fun hS => ?_)
          clear hK K hB_2 hR_2 hN_2 hG5_2 hb_2
          generalize W2.alloc (.cells (ints zer) 54) = W3 at *
          generalize W2.heap.size = g4 at *
          refine wpAnyH_ready (rs := [8]) (by kernel_rfl) (by simp) ?_
          refine (AllReadyH.cons rfl (fun K hK => ?_) AllReadyH.nil)
          · go_simp
            have hB_4 := hB_3.alloc (.cells (mc zeroM) 28)
            have hR_4 := hR_3.alloc (.cells (mc zeroM) 28)
            have hN_4 := hN_3.alloc (.cells (mc zeroM) 28)
            have hG5_4 := hG5_3.alloc (.cells (mc zeroM) 28)
            have hG4_4 := hG4_3.alloc (.cells (mc zeroM) 28)
            have hb_4 := below_alloc' hb_3 (.cells (mc zeroM) 28)
            have hG6_4 : Blk (W3.alloc (.cells (mc zeroM) 28)) W3.heap.size (mc zeroM) 28 := Blk.new _ _ _
            have o6 := hN_3.lt
            have o65 := hG5_3.lt
            have o64 := hG4_3.lt
            refine hK.out _ _ hB_4 (fun hS => ?_)
            clear hK K hB_3 hR_3 hN_3 hG5_3 hG4_3 hb_3
            generalize W3.alloc (.cells (mc zeroM) 28) = W4 at *
            generalize W3.heap.size = g6 at *
            refine hK_store 9 rfl (by kernel_rfl) rfl 54 _ _ rfl g4 0 (ints (clsS M L S (S + 1))) rfl rfl _ _ hG4_4 (by rw [Hcs.out, Hz16.out]; omega) (by rw [Hcs.out]; exact size_i16) (ints_one _) _ Hco.out (fun W5 hs => ⟨hs.keep (by omega) hB_4, fun hS => ?_⟩)
            (intro K hK; go_simp; refine hK _ ?_; clear hK K)
            have hB_5 := hs.keep (by omega) hB_4
            have hR_5 := hs.keep (by omega) hR_4
            have hN_5 := hs.keep (by omega) hN_4
            have hG4_5 := hs.blk
            have hG5_5 := hs.keep (by omega) hG5_4
            have hG6_5 := hs.keep (by omega) hG6_4
            have hb_5 := hs.below _ _ (by omega) hb_4
            clear hs hB_4 hR_4 hN_4 hG4_4 hG5_4 hG6_4 hb_4
            refine hK_store 10 rfl (by kernel_rfl) rfl 54 _ _ rfl g5 0 (ints zer) rfl rfl _ _ hG5_5 (by rw [Hz16.out]; omega) (by rw [Hz16.out]; exact size_i16) (ints_one _) _ Hzo.out (fun W6 hs => ⟨hs.keep (by omega) hB_5, fun hS => ?_⟩)
            (intro K hK; go_simp; refine hK _ ?_; clear hK K)
            have hB_6 := hs.keep (by omega) hB_5
            have hR_6 := hs.keep (by omega) hR_5
            have hN_6 := hs.keep (by omega) hN_5
            have hG4_6 := hs.keep (by omega) hG4_5
            have hG5_6 := hs.blk
            have hG6_6 := hs.keep (by omega) hG6_5
            have hb_6 := hs.below _ _ (by omega) hb_5
            clear hs hB_5 hR_5 hN_5 hG4_5 hG5_5 hG6_5 hb_5
            refine hK_store 11 rfl (by kernel_rfl) rfl 28 _ _ rfl g6 0 (mc (blankM (L : Int) 0)) rfl rfl _ _ hG6_6 (by rw [Hzs.out, Hbs.out]; omega) (by rw [Hbs.out]; exact size_mach) (mc_one _) _ Hbo.out (fun W7 hs => ⟨hs.keep (by omega) hB_6, fun hS => ?_⟩)
            (intro K hK; go_simp; refine hK _ ?_; clear hK K)
            have hB_7 := hs.keep (by omega) hB_6
            have hR_7 := hs.keep (by omega) hR_6
            have hN_7 := hs.keep (by omega) hN_6
            have hG4_7 := hs.keep (by omega) hG4_6
            have hG5_7 := hs.keep (by omega) hG5_6
            have hG6_7 := hs.blk
            have hb_7 := hs.below _ _ (by omega) hb_6
            clear hs hB_6 hR_6 hN_6 hG4_6 hG5_6 hG6_6 hb_6
            refine wpAnyH_done (by kernel_rfl) ?_ _
            exact ⟨g4, g5, g6, by omega, rfl, ⟨hB_7, hR_7, hN_7⟩, ⟨hG4_7, hG5_7, hG6_7⟩, hb_7⟩
        · go_simp
          have hB_3 := hB_2.alloc (.cells (mc zeroM) 28)
          have hR_3 := hR_2.alloc (.cells (mc zeroM) 28)
          have hN_3 := hN_2.alloc (.cells (mc zeroM) 28)
          have hG5_3 := hG5_2.alloc (.cells (mc zeroM) 28)
          have hb_3 := below_alloc' hb_2 (.cells (mc zeroM) 28)
          have hG6_3 : Blk (W2.alloc (.cells (mc zeroM) 28)) W2.heap.size (mc zeroM) 28 := Blk.new _ _ _
          have o6 := hN_2.lt
          have o65 := hG5_2.lt
          refine hK.out _ _ hB_3 (fun hS => ?_)
          clear hK K hB_2 hR_2 hN_2 hG5_2 hb_2
          generalize W2.alloc (.cells (mc zeroM) 28) = W3 at *
          generalize W2.heap.size = g6 at *
          refine wpAnyH_ready (rs := [6]) (by kernel_rfl) (by simp) ?_
          refine (AllReadyH.cons rfl (fun K hK => ?_) AllReadyH.nil)
          · go_simp
            have hB_4 := hB_3.alloc (.cells (ints zer) 54)
            have hR_4 := hR_3.alloc (.cells (ints zer) 54)
            have hN_4 := hN_3.alloc (.cells (ints zer) 54)
            have hG5_4 := hG5_3.alloc (.cells (ints zer) 54)
            have hG6_4 := hG6_3.alloc (.cells (ints zer) 54)
            have hb_4 := below_alloc' hb_3 (.cells (ints zer) 54)
            have hG4_4 : Blk (W3.alloc (.cells (ints zer) 54)) W3.heap.size (ints zer) 54 := Blk.new _ _ _
            have o4 := hN_3.lt
            have o45 := hG5_3.lt
            have o46 := hG6_3.lt
            refine hK.out _ _ hB_4 (fun hS => ?_)
            clear hK K hB_3 hR_3 hN_3 hG5_3 hG6_3 hb_3
            generalize W3.alloc (.cells (ints zer) 54) = W4 at *
            generalize W3.heap.size = g4 at *
            refine hK_store 9 rfl (by kernel_rfl) rfl 54 _ _ rfl g4 0 (ints (clsS M L S (S + 1))) rfl rfl _ _ hG4_4 (by rw [Hcs.out, Hz16.out]; omega) (by rw [Hcs.out]; exact size_i16) (ints_one _) _ Hco.out (fun W5 hs => ⟨hs.keep (by omega) hB_4, fun hS => ?_⟩)
            (intro K hK; go_simp; refine hK _ ?_; clear hK K)
            have hB_5 := hs.keep (by omega) hB_4
            have hR_5 := hs.keep (by omega) hR_4
            have hN_5 := hs.keep (by omega) hN_4
            have hG4_5 := hs.blk
            have hG5_5 := hs.keep (by omega) hG5_4
            have hG6_5 := hs.keep (by omega) hG6_4
            have hb_5 := hs.below _ _ (by omega) hb_4
            clear hs hB_4 hR_4 hN_4 hG4_4 hG5_4 hG6_4 hb_4
            refine hK_store 10 rfl (by kernel_rfl) rfl 54 _ _ rfl g5 0 (ints zer) rfl rfl _ _ hG5_5 (by rw [Hz16.out]; omega) (by rw [Hz16.out]; exact size_i16) (ints_one _) _ Hzo.out (fun W6 hs => ⟨hs.keep (by omega) hB_5, fun hS => ?_⟩)
            (intro K hK; go_simp; refine hK _ ?_; clear hK K)
            have hB_6 := hs.keep (by omega) hB_5
            have hR_6 := hs.keep (by omega) hR_5
            have hN_6 := hs.keep (by omega) hN_5
            have hG4_6 := hs.keep (by omega) hG4_5
            have hG5_6 := hs.blk
            have hG6_6 := hs.keep (by omega) hG6_5
            have hb_6 := hs.below _ _ (by omega) hb_5
            clear hs hB_5 hR_5 hN_5 hG4_5 hG5_5 hG6_5 hb_5
            refine hK_store 11 rfl (by kernel_rfl) rfl 28 _ _ rfl g6 0 (mc (blankM (L : Int) 0)) rfl rfl _ _ hG6_6 (by rw [Hzs.out, Hbs.out]; omega) (by rw [Hbs.out]; exact size_mach) (mc_one _) _ Hbo.out (fun W7 hs => ⟨hs.keep (by omega) hB_6, fun hS => ?_⟩)
            (intro K hK; go_simp; refine hK _ ?_; clear hK K)
            have hB_7 := hs.keep (by omega) hB_6
            have hR_7 := hs.keep (by omega) hR_6
            have hN_7 := hs.keep (by omega) hN_6
            have hG4_7 := hs.keep (by omega) hG4_6
            have hG5_7 := hs.keep (by omega) hG5_6
            have hG6_7 := hs.blk
            have hb_7 := hs.below _ _ (by omega) hb_6
            clear hs hB_6 hR_6 hN_6 hG4_6 hG5_6 hG6_6 hb_6
            refine wpAnyH_done (by kernel_rfl) ?_ _
            exact ⟨g4, g5, g6, by omega, rfl, ⟨hB_7, hR_7, hN_7⟩, ⟨hG4_7, hG5_7, hG6_7⟩, hb_7⟩
      · go_simp
        have hB_2 := hB_1.alloc (.cells (mc zeroM) 28)
        have hR_2 := hR_1.alloc (.cells (mc zeroM) 28)
        have hN_2 := hN_1.alloc (.cells (mc zeroM) 28)
        have hb_2 := below_alloc' hb_1 (.cells (mc zeroM) 28)
        have hG6_2 : Blk (W1.alloc (.cells (mc zeroM) 28)) W1.heap.size (mc zeroM) 28 := Blk.new _ _ _
        have o6 := hN_1.lt
        refine hK.out _ _ hB_2 (fun hS => ?_)
        clear hK K hB_1 hR_1 hN_1 hb_1
        generalize W1.alloc (.cells (mc zeroM) 28) = W2 at *
        generalize W1.heap.size = g6 at *
        refine wpAnyH_ready (rs := [6, 7]) (by kernel_rfl) (by simp) ?_
        refine (AllReadyH.cons rfl (fun K hK => ?_) (AllReadyH.cons rfl (fun K hK => ?_) AllReadyH.nil))
        · go_simp
          have hB_3 := hB_2.alloc (.cells (ints zer) 54)
          have hR_3 := hR_2.alloc (.cells (ints zer) 54)
          have hN_3 := hN_2.alloc (.cells (ints zer) 54)
          have hG6_3 := hG6_2.alloc (.cells (ints zer) 54)
          have hb_3 := below_alloc' hb_2 (.cells (ints zer) 54)
          have hG4_3 : Blk (W2.alloc (.cells (ints zer) 54)) W2.heap.size (ints zer) 54 := Blk.new _ _ _
          have o4 := hN_2.lt
          have o46 := hG6_2.lt
          refine hK.out _ _ hB_3 (fun hS => ?_)
          clear hK K hB_2 hR_2 hN_2 hG6_2 hb_2
          generalize W2.alloc (.cells (ints zer) 54) = W3 at *
          generalize W2.heap.size = g4 at *
          refine wpAnyH_ready (rs := [7]) (by kernel_rfl) (by simp) ?_
          refine (AllReadyH.cons rfl (fun K hK => ?_) AllReadyH.nil)
          · go_simp
            have hB_4 := hB_3.alloc (.cells (ints zer) 54)
            have hR_4 := hR_3.alloc (.cells (ints zer) 54)
            have hN_4 := hN_3.alloc (.cells (ints zer) 54)
            have hG6_4 := hG6_3.alloc (.cells (ints zer) 54)
            have hG4_4 := hG4_3.alloc (.cells (ints zer) 54)
            have hb_4 := below_alloc' hb_3 (.cells (ints zer) 54)
            have hG5_4 : Blk (W3.alloc (.cells (ints zer) 54)) W3.heap.size (ints zer) 54 := Blk.new _ _ _
            have o5 := hN_3.lt
            have o56 := hG6_3.lt
            have o54 := hG4_3.lt
            refine hK.out _ _ hB_4 (fun hS => ?_)
            clear hK K hB_3 hR_3 hN_3 hG6_3 hG4_3 hb_3
            generalize W3.alloc (.cells (ints zer) 54) = W4 at *
            generalize W3.heap.size = g5 at *
            refine hK_store 9 rfl (by kernel_rfl) rfl 54 _ _ rfl g4 0 (ints (clsS M L S (S + 1))) rfl rfl _ _ hG4_4 (by rw [Hcs.out, Hz16.out]; omega) (by rw [Hcs.out]; exact size_i16) (ints_one _) _ Hco.out (fun W5 hs => ⟨hs.keep (by omega) hB_4, fun hS => ?_⟩)
            (intro K hK; go_simp; refine hK _ ?_; clear hK K)
            have hB_5 := hs.keep (by omega) hB_4
            have hR_5 := hs.keep (by omega) hR_4
            have hN_5 := hs.keep (by omega) hN_4
            have hG4_5 := hs.blk
            have hG5_5 := hs.keep (by omega) hG5_4
            have hG6_5 := hs.keep (by omega) hG6_4
            have hb_5 := hs.below _ _ (by omega) hb_4
            clear hs hB_4 hR_4 hN_4 hG4_4 hG5_4 hG6_4 hb_4
            refine hK_store 10 rfl (by kernel_rfl) rfl 54 _ _ rfl g5 0 (ints zer) rfl rfl _ _ hG5_5 (by rw [Hz16.out]; omega) (by rw [Hz16.out]; exact size_i16) (ints_one _) _ Hzo.out (fun W6 hs => ⟨hs.keep (by omega) hB_5, fun hS => ?_⟩)
            (intro K hK; go_simp; refine hK _ ?_; clear hK K)
            have hB_6 := hs.keep (by omega) hB_5
            have hR_6 := hs.keep (by omega) hR_5
            have hN_6 := hs.keep (by omega) hN_5
            have hG4_6 := hs.keep (by omega) hG4_5
            have hG5_6 := hs.blk
            have hG6_6 := hs.keep (by omega) hG6_5
            have hb_6 := hs.below _ _ (by omega) hb_5
            clear hs hB_5 hR_5 hN_5 hG4_5 hG5_5 hG6_5 hb_5
            refine hK_store 11 rfl (by kernel_rfl) rfl 28 _ _ rfl g6 0 (mc (blankM (L : Int) 0)) rfl rfl _ _ hG6_6 (by rw [Hzs.out, Hbs.out]; omega) (by rw [Hbs.out]; exact size_mach) (mc_one _) _ Hbo.out (fun W7 hs => ⟨hs.keep (by omega) hB_6, fun hS => ?_⟩)
            (intro K hK; go_simp; refine hK _ ?_; clear hK K)
            have hB_7 := hs.keep (by omega) hB_6
            have hR_7 := hs.keep (by omega) hR_6
            have hN_7 := hs.keep (by omega) hN_6
            have hG4_7 := hs.keep (by omega) hG4_6
            have hG5_7 := hs.keep (by omega) hG5_6
            have hG6_7 := hs.blk
            have hb_7 := hs.below _ _ (by omega) hb_6
            clear hs hB_6 hR_6 hN_6 hG4_6 hG5_6 hG6_6 hb_6
            refine wpAnyH_done (by kernel_rfl) ?_ _
            exact ⟨g4, g5, g6, by omega, rfl, ⟨hB_7, hR_7, hN_7⟩, ⟨hG4_7, hG5_7, hG6_7⟩, hb_7⟩
        · go_simp
          have hB_3 := hB_2.alloc (.cells (ints zer) 54)
          have hR_3 := hR_2.alloc (.cells (ints zer) 54)
          have hN_3 := hN_2.alloc (.cells (ints zer) 54)
          have hG6_3 := hG6_2.alloc (.cells (ints zer) 54)
          have hb_3 := below_alloc' hb_2 (.cells (ints zer) 54)
          have hG5_3 : Blk (W2.alloc (.cells (ints zer) 54)) W2.heap.size (ints zer) 54 := Blk.new _ _ _
          have o5 := hN_2.lt
          have o56 := hG6_2.lt
          refine hK.out _ _ hB_3 (fun hS => ?_)
          clear hK K hB_2 hR_2 hN_2 hG6_2 hb_2
          generalize W2.alloc (.cells (ints zer) 54) = W3 at *
          generalize W2.heap.size = g5 at *
          refine wpAnyH_ready (rs := [6]) (by kernel_rfl) (by simp) ?_
          refine (AllReadyH.cons rfl (fun K hK => ?_) AllReadyH.nil)
          · go_simp
            have hB_4 := hB_3.alloc (.cells (ints zer) 54)
            have hR_4 := hR_3.alloc (.cells (ints zer) 54)
            have hN_4 := hN_3.alloc (.cells (ints zer) 54)
            have hG6_4 := hG6_3.alloc (.cells (ints zer) 54)
            have hG5_4 := hG5_3.alloc (.cells (ints zer) 54)
            have hb_4 := below_alloc' hb_3 (.cells (ints zer) 54)
            have hG4_4 : Blk (W3.alloc (.cells (ints zer) 54)) W3.heap.size (ints zer) 54 := Blk.new _ _ _
            have o4 := hN_3.lt
            have o46 := hG6_3.lt
            have o45 := hG5_3.lt
            refine hK.out _ _ hB_4 (fun hS => ?_)
            clear hK K hB_3 hR_3 hN_3 hG6_3 hG5_3 hb_3
            generalize W3.alloc (.cells (ints zer) 54) = W4 at *
            generalize W3.heap.size = g4 at *
            refine hK_store 9 rfl (by kernel_rfl) rfl 54 _ _ rfl g4 0 (ints (clsS M L S (S + 1))) rfl rfl _ _ hG4_4 (by rw [Hcs.out, Hz16.out]; omega) (by rw [Hcs.out]; exact size_i16) (ints_one _) _ Hco.out (fun W5 hs => ⟨hs.keep (by omega) hB_4, fun hS => ?_⟩)
            (intro K hK; go_simp; refine hK _ ?_; clear hK K)
            have hB_5 := hs.keep (by omega) hB_4
            have hR_5 := hs.keep (by omega) hR_4
            have hN_5 := hs.keep (by omega) hN_4
            have hG4_5 := hs.blk
            have hG5_5 := hs.keep (by omega) hG5_4
            have hG6_5 := hs.keep (by omega) hG6_4
            have hb_5 := hs.below _ _ (by omega) hb_4
            clear hs hB_4 hR_4 hN_4 hG4_4 hG5_4 hG6_4 hb_4
            refine hK_store 10 rfl (by kernel_rfl) rfl 54 _ _ rfl g5 0 (ints zer) rfl rfl _ _ hG5_5 (by rw [Hz16.out]; omega) (by rw [Hz16.out]; exact size_i16) (ints_one _) _ Hzo.out (fun W6 hs => ⟨hs.keep (by omega) hB_5, fun hS => ?_⟩)
            (intro K hK; go_simp; refine hK _ ?_; clear hK K)
            have hB_6 := hs.keep (by omega) hB_5
            have hR_6 := hs.keep (by omega) hR_5
            have hN_6 := hs.keep (by omega) hN_5
            have hG4_6 := hs.keep (by omega) hG4_5
            have hG5_6 := hs.blk
            have hG6_6 := hs.keep (by omega) hG6_5
            have hb_6 := hs.below _ _ (by omega) hb_5
            clear hs hB_5 hR_5 hN_5 hG4_5 hG5_5 hG6_5 hb_5
            refine hK_store 11 rfl (by kernel_rfl) rfl 28 _ _ rfl g6 0 (mc (blankM (L : Int) 0)) rfl rfl _ _ hG6_6 (by rw [Hzs.out, Hbs.out]; omega) (by rw [Hbs.out]; exact size_mach) (mc_one _) _ Hbo.out (fun W7 hs => ⟨hs.keep (by omega) hB_6, fun hS => ?_⟩)
            (intro K hK; go_simp; refine hK _ ?_; clear hK K)
            have hB_7 := hs.keep (by omega) hB_6
            have hR_7 := hs.keep (by omega) hR_6
            have hN_7 := hs.keep (by omega) hN_6
            have hG4_7 := hs.keep (by omega) hG4_6
            have hG5_7 := hs.keep (by omega) hG5_6
            have hG6_7 := hs.blk
            have hb_7 := hs.below _ _ (by omega) hb_6
            clear hs hB_6 hR_6 hN_6 hG4_6 hG5_6 hG6_6 hb_6
            refine wpAnyH_done (by kernel_rfl) ?_ _
            exact ⟨g4, g5, g6, by omega, rfl, ⟨hB_7, hR_7, hN_7⟩, ⟨hG4_7, hG5_7, hG6_7⟩, hb_7⟩
    · go_simp
      have hB_1 := hB_0.alloc (.cells (ints zer) 54)
      have hR_1 := hR_0.alloc (.cells (ints zer) 54)
      have hN_1 := hN_0.alloc (.cells (ints zer) 54)
      have hb_1 := below_alloc' hb_0 (.cells (ints zer) 54)
      have hG4_1 : Blk (wd.alloc (.cells (ints zer) 54)) wd.heap.size (ints zer) 54 := Blk.new _ _ _
      have o4 := hN_0.lt
      refine hK.out _ _ hB_1 (fun hS => ?_)
      clear hK K hB_0 hR_0 hN_0 hb_0
      generalize wd.alloc (.cells (ints zer) 54) = W1 at *
      generalize wd.heap.size = g4 at *
      refine wpAnyH_ready (rs := [1, 7, 8]) (by kernel_rfl) (by simp) ?_
      refine (AllReadyH.cons rfl (fun K hK => ?_) (AllReadyH.cons rfl (fun K hK => ?_) (AllReadyH.cons rfl (fun K hK => ?_) AllReadyH.nil)))
      · go_simp
        refine (l01Classes_calls M L S Hg.out _).mono ?_
        rintro e W2 ⟨rfl, hc⟩
        have hB_2 := hB_1.keptAll hc
        have hR_2 := hR_1.keptAll hc
        have hN_2 := hN_1.keptAll hc
        have hG4_2 := hG4_1.keptAll hc
        have hb_2 := below_step hb_1 hc
        clear hc hB_1 hR_1 hN_1 hG4_1 hb_1
        go_simp
        refine hK.out _ _ hB_2 (fun hS => ?_)
        clear hK K
        refine wpAnyH_ready (rs := [7, 8]) (by kernel_rfl) (by simp) ?_
        refine (AllReadyH.cons rfl (fun K hK => ?_) (AllReadyH.cons rfl (fun K hK => ?_) AllReadyH.nil))
        · go_simp
          have hB_3 := hB_2.alloc (.cells (ints zer) 54)
          have hR_3 := hR_2.alloc (.cells (ints zer) 54)
          have hN_3 := hN_2.alloc (.cells (ints zer) 54)
          have hG4_3 := hG4_2.alloc (.cells (ints zer) 54)
          have hb_3 := below_alloc' hb_2 (.cells (ints zer) 54)
          have hG5_3 : Blk (W2.alloc (.cells (ints zer) 54)) W2.heap.size (ints zer) 54 := Blk.new _ _ _
          have o5 := hN_2.lt
          have o54 := hG4_2.lt
          refine hK.out _ _ hB_3 (fun hS => ?_)
          clear hK K hB_2 hR_2 hN_2 hG4_2 hb_2
          generalize W2.alloc (.cells (ints zer) 54) = W3 at *
          generalize W2.heap.size = g5 at *
          refine wpAnyH_ready (rs := [8]) (by kernel_rfl) (by simp) ?_
          refine (AllReadyH.cons rfl (fun K hK => ?_) AllReadyH.nil)
          · go_simp
            have hB_4 := hB_3.alloc (.cells (mc zeroM) 28)
            have hR_4 := hR_3.alloc (.cells (mc zeroM) 28)
            have hN_4 := hN_3.alloc (.cells (mc zeroM) 28)
            have hG4_4 := hG4_3.alloc (.cells (mc zeroM) 28)
            have hG5_4 := hG5_3.alloc (.cells (mc zeroM) 28)
            have hb_4 := below_alloc' hb_3 (.cells (mc zeroM) 28)
            have hG6_4 : Blk (W3.alloc (.cells (mc zeroM) 28)) W3.heap.size (mc zeroM) 28 := Blk.new _ _ _
            have o6 := hN_3.lt
            have o64 := hG4_3.lt
            have o65 := hG5_3.lt
            refine hK.out _ _ hB_4 (fun hS => ?_)
            clear hK K hB_3 hR_3 hN_3 hG4_3 hG5_3 hb_3
            generalize W3.alloc (.cells (mc zeroM) 28) = W4 at *
            generalize W3.heap.size = g6 at *
            refine hK_store 9 rfl (by kernel_rfl) rfl 54 _ _ rfl g4 0 (ints (clsS M L S (S + 1))) rfl rfl _ _ hG4_4 (by rw [Hcs.out, Hz16.out]; omega) (by rw [Hcs.out]; exact size_i16) (ints_one _) _ Hco.out (fun W5 hs => ⟨hs.keep (by omega) hB_4, fun hS => ?_⟩)
            (intro K hK; go_simp; refine hK _ ?_; clear hK K)
            have hB_5 := hs.keep (by omega) hB_4
            have hR_5 := hs.keep (by omega) hR_4
            have hN_5 := hs.keep (by omega) hN_4
            have hG4_5 := hs.blk
            have hG5_5 := hs.keep (by omega) hG5_4
            have hG6_5 := hs.keep (by omega) hG6_4
            have hb_5 := hs.below _ _ (by omega) hb_4
            clear hs hB_4 hR_4 hN_4 hG4_4 hG5_4 hG6_4 hb_4
            refine hK_store 10 rfl (by kernel_rfl) rfl 54 _ _ rfl g5 0 (ints zer) rfl rfl _ _ hG5_5 (by rw [Hz16.out]; omega) (by rw [Hz16.out]; exact size_i16) (ints_one _) _ Hzo.out (fun W6 hs => ⟨hs.keep (by omega) hB_5, fun hS => ?_⟩)
            (intro K hK; go_simp; refine hK _ ?_; clear hK K)
            have hB_6 := hs.keep (by omega) hB_5
            have hR_6 := hs.keep (by omega) hR_5
            have hN_6 := hs.keep (by omega) hN_5
            have hG4_6 := hs.keep (by omega) hG4_5
            have hG5_6 := hs.blk
            have hG6_6 := hs.keep (by omega) hG6_5
            have hb_6 := hs.below _ _ (by omega) hb_5
            clear hs hB_5 hR_5 hN_5 hG4_5 hG5_5 hG6_5 hb_5
            refine hK_store 11 rfl (by kernel_rfl) rfl 28 _ _ rfl g6 0 (mc (blankM (L : Int) 0)) rfl rfl _ _ hG6_6 (by rw [Hzs.out, Hbs.out]; omega) (by rw [Hbs.out]; exact size_mach) (mc_one _) _ Hbo.out (fun W7 hs => ⟨hs.keep (by omega) hB_6, fun hS => ?_⟩)
            (intro K hK; go_simp; refine hK _ ?_; clear hK K)
            have hB_7 := hs.keep (by omega) hB_6
            have hR_7 := hs.keep (by omega) hR_6
            have hN_7 := hs.keep (by omega) hN_6
            have hG4_7 := hs.keep (by omega) hG4_6
            have hG5_7 := hs.keep (by omega) hG5_6
            have hG6_7 := hs.blk
            have hb_7 := hs.below _ _ (by omega) hb_6
            clear hs hB_6 hR_6 hN_6 hG4_6 hG5_6 hG6_6 hb_6
            refine wpAnyH_done (by kernel_rfl) ?_ _
            exact ⟨g4, g5, g6, by omega, rfl, ⟨hB_7, hR_7, hN_7⟩, ⟨hG4_7, hG5_7, hG6_7⟩, hb_7⟩
        · go_simp
          have hB_3 := hB_2.alloc (.cells (mc zeroM) 28)
          have hR_3 := hR_2.alloc (.cells (mc zeroM) 28)
          have hN_3 := hN_2.alloc (.cells (mc zeroM) 28)
          have hG4_3 := hG4_2.alloc (.cells (mc zeroM) 28)
          have hb_3 := below_alloc' hb_2 (.cells (mc zeroM) 28)
          have hG6_3 : Blk (W2.alloc (.cells (mc zeroM) 28)) W2.heap.size (mc zeroM) 28 := Blk.new _ _ _
          have o6 := hN_2.lt
          have o64 := hG4_2.lt
          refine hK.out _ _ hB_3 (fun hS => ?_)
          clear hK K hB_2 hR_2 hN_2 hG4_2 hb_2
          generalize W2.alloc (.cells (mc zeroM) 28) = W3 at *
          generalize W2.heap.size = g6 at *
          refine wpAnyH_ready (rs := [7]) (by kernel_rfl) (by simp) ?_
          refine (AllReadyH.cons rfl (fun K hK => ?_) AllReadyH.nil)
          · go_simp
            have hB_4 := hB_3.alloc (.cells (ints zer) 54)
            have hR_4 := hR_3.alloc (.cells (ints zer) 54)
            have hN_4 := hN_3.alloc (.cells (ints zer) 54)
            have hG4_4 := hG4_3.alloc (.cells (ints zer) 54)
            have hG6_4 := hG6_3.alloc (.cells (ints zer) 54)
            have hb_4 := below_alloc' hb_3 (.cells (ints zer) 54)
            have hG5_4 : Blk (W3.alloc (.cells (ints zer) 54)) W3.heap.size (ints zer) 54 := Blk.new _ _ _
            have o5 := hN_3.lt
            have o54 := hG4_3.lt
            have o56 := hG6_3.lt
            refine hK.out _ _ hB_4 (fun hS => ?_)
            clear hK K hB_3 hR_3 hN_3 hG4_3 hG6_3 hb_3
            generalize W3.alloc (.cells (ints zer) 54) = W4 at *
            generalize W3.heap.size = g5 at *
            refine hK_store 9 rfl (by kernel_rfl) rfl 54 _ _ rfl g4 0 (ints (clsS M L S (S + 1))) rfl rfl _ _ hG4_4 (by rw [Hcs.out, Hz16.out]; omega) (by rw [Hcs.out]; exact size_i16) (ints_one _) _ Hco.out (fun W5 hs => ⟨hs.keep (by omega) hB_4, fun hS => ?_⟩)
            (intro K hK; go_simp; refine hK _ ?_; clear hK K)
            have hB_5 := hs.keep (by omega) hB_4
            have hR_5 := hs.keep (by omega) hR_4
            have hN_5 := hs.keep (by omega) hN_4
            have hG4_5 := hs.blk
            have hG5_5 := hs.keep (by omega) hG5_4
            have hG6_5 := hs.keep (by omega) hG6_4
            have hb_5 := hs.below _ _ (by omega) hb_4
            clear hs hB_4 hR_4 hN_4 hG4_4 hG5_4 hG6_4 hb_4
            refine hK_store 10 rfl (by kernel_rfl) rfl 54 _ _ rfl g5 0 (ints zer) rfl rfl _ _ hG5_5 (by rw [Hz16.out]; omega) (by rw [Hz16.out]; exact size_i16) (ints_one _) _ Hzo.out (fun W6 hs => ⟨hs.keep (by omega) hB_5, fun hS => ?_⟩)
            (intro K hK; go_simp; refine hK _ ?_; clear hK K)
            have hB_6 := hs.keep (by omega) hB_5
            have hR_6 := hs.keep (by omega) hR_5
            have hN_6 := hs.keep (by omega) hN_5
            have hG4_6 := hs.keep (by omega) hG4_5
            have hG5_6 := hs.blk
            have hG6_6 := hs.keep (by omega) hG6_5
            have hb_6 := hs.below _ _ (by omega) hb_5
            clear hs hB_5 hR_5 hN_5 hG4_5 hG5_5 hG6_5 hb_5
            refine hK_store 11 rfl (by kernel_rfl) rfl 28 _ _ rfl g6 0 (mc (blankM (L : Int) 0)) rfl rfl _ _ hG6_6 (by rw [Hzs.out, Hbs.out]; omega) (by rw [Hbs.out]; exact size_mach) (mc_one _) _ Hbo.out (fun W7 hs => ⟨hs.keep (by omega) hB_6, fun hS => ?_⟩)
            (intro K hK; go_simp; refine hK _ ?_; clear hK K)
            have hB_7 := hs.keep (by omega) hB_6
            have hR_7 := hs.keep (by omega) hR_6
            have hN_7 := hs.keep (by omega) hN_6
            have hG4_7 := hs.keep (by omega) hG4_6
            have hG5_7 := hs.keep (by omega) hG5_6
            have hG6_7 := hs.blk
            have hb_7 := hs.below _ _ (by omega) hb_6
            clear hs hB_6 hR_6 hN_6 hG4_6 hG5_6 hG6_6 hb_6
            refine wpAnyH_done (by kernel_rfl) ?_ _
            exact ⟨g4, g5, g6, by omega, rfl, ⟨hB_7, hR_7, hN_7⟩, ⟨hG4_7, hG5_7, hG6_7⟩, hb_7⟩
      · go_simp
        have hB_2 := hB_1.alloc (.cells (ints zer) 54)
        have hR_2 := hR_1.alloc (.cells (ints zer) 54)
        have hN_2 := hN_1.alloc (.cells (ints zer) 54)
        have hG4_2 := hG4_1.alloc (.cells (ints zer) 54)
        have hb_2 := below_alloc' hb_1 (.cells (ints zer) 54)
        have hG5_2 : Blk (W1.alloc (.cells (ints zer) 54)) W1.heap.size (ints zer) 54 := Blk.new _ _ _
        have o5 := hN_1.lt
        have o54 := hG4_1.lt
        refine hK.out _ _ hB_2 (fun hS => ?_)
        clear hK K hB_1 hR_1 hN_1 hG4_1 hb_1
        generalize W1.alloc (.cells (ints zer) 54) = W2 at *
        generalize W1.heap.size = g5 at *
        refine wpAnyH_ready (rs := [1, 8]) (by kernel_rfl) (by simp) ?_
        refine (AllReadyH.cons rfl (fun K hK => ?_) (AllReadyH.cons rfl (fun K hK => ?_) AllReadyH.nil))
        · go_simp
          refine (l01Classes_calls M L S Hg.out _).mono ?_
          rintro e W3 ⟨rfl, hc⟩
          have hB_3 := hB_2.keptAll hc
          have hR_3 := hR_2.keptAll hc
          have hN_3 := hN_2.keptAll hc
          have hG4_3 := hG4_2.keptAll hc
          have hG5_3 := hG5_2.keptAll hc
          have hb_3 := below_step hb_2 hc
          clear hc hB_2 hR_2 hN_2 hG4_2 hG5_2 hb_2
          go_simp
          refine hK.out _ _ hB_3 (fun hS => ?_)
          clear hK K
          refine wpAnyH_ready (rs := [8]) (by kernel_rfl) (by simp) ?_
          refine (AllReadyH.cons rfl (fun K hK => ?_) AllReadyH.nil)
          · go_simp
            have hB_4 := hB_3.alloc (.cells (mc zeroM) 28)
            have hR_4 := hR_3.alloc (.cells (mc zeroM) 28)
            have hN_4 := hN_3.alloc (.cells (mc zeroM) 28)
            have hG4_4 := hG4_3.alloc (.cells (mc zeroM) 28)
            have hG5_4 := hG5_3.alloc (.cells (mc zeroM) 28)
            have hb_4 := below_alloc' hb_3 (.cells (mc zeroM) 28)
            have hG6_4 : Blk (W3.alloc (.cells (mc zeroM) 28)) W3.heap.size (mc zeroM) 28 := Blk.new _ _ _
            have o6 := hN_3.lt
            have o64 := hG4_3.lt
            have o65 := hG5_3.lt
            refine hK.out _ _ hB_4 (fun hS => ?_)
            clear hK K hB_3 hR_3 hN_3 hG4_3 hG5_3 hb_3
            generalize W3.alloc (.cells (mc zeroM) 28) = W4 at *
            generalize W3.heap.size = g6 at *
            refine hK_store 9 rfl (by kernel_rfl) rfl 54 _ _ rfl g4 0 (ints (clsS M L S (S + 1))) rfl rfl _ _ hG4_4 (by rw [Hcs.out, Hz16.out]; omega) (by rw [Hcs.out]; exact size_i16) (ints_one _) _ Hco.out (fun W5 hs => ⟨hs.keep (by omega) hB_4, fun hS => ?_⟩)
            (intro K hK; go_simp; refine hK _ ?_; clear hK K)
            have hB_5 := hs.keep (by omega) hB_4
            have hR_5 := hs.keep (by omega) hR_4
            have hN_5 := hs.keep (by omega) hN_4
            have hG4_5 := hs.blk
            have hG5_5 := hs.keep (by omega) hG5_4
            have hG6_5 := hs.keep (by omega) hG6_4
            have hb_5 := hs.below _ _ (by omega) hb_4
            clear hs hB_4 hR_4 hN_4 hG4_4 hG5_4 hG6_4 hb_4
            refine hK_store 10 rfl (by kernel_rfl) rfl 54 _ _ rfl g5 0 (ints zer) rfl rfl _ _ hG5_5 (by rw [Hz16.out]; omega) (by rw [Hz16.out]; exact size_i16) (ints_one _) _ Hzo.out (fun W6 hs => ⟨hs.keep (by omega) hB_5, fun hS => ?_⟩)
            (intro K hK; go_simp; refine hK _ ?_; clear hK K)
            have hB_6 := hs.keep (by omega) hB_5
            have hR_6 := hs.keep (by omega) hR_5
            have hN_6 := hs.keep (by omega) hN_5
            have hG4_6 := hs.keep (by omega) hG4_5
            have hG5_6 := hs.blk
            have hG6_6 := hs.keep (by omega) hG6_5
            have hb_6 := hs.below _ _ (by omega) hb_5
            clear hs hB_5 hR_5 hN_5 hG4_5 hG5_5 hG6_5 hb_5
            refine hK_store 11 rfl (by kernel_rfl) rfl 28 _ _ rfl g6 0 (mc (blankM (L : Int) 0)) rfl rfl _ _ hG6_6 (by rw [Hzs.out, Hbs.out]; omega) (by rw [Hbs.out]; exact size_mach) (mc_one _) _ Hbo.out (fun W7 hs => ⟨hs.keep (by omega) hB_6, fun hS => ?_⟩)
            (intro K hK; go_simp; refine hK _ ?_; clear hK K)
            have hB_7 := hs.keep (by omega) hB_6
            have hR_7 := hs.keep (by omega) hR_6
            have hN_7 := hs.keep (by omega) hN_6
            have hG4_7 := hs.keep (by omega) hG4_6
            have hG5_7 := hs.keep (by omega) hG5_6
            have hG6_7 := hs.blk
            have hb_7 := hs.below _ _ (by omega) hb_6
            clear hs hB_6 hR_6 hN_6 hG4_6 hG5_6 hG6_6 hb_6
            refine wpAnyH_done (by kernel_rfl) ?_ _
            exact ⟨g4, g5, g6, by omega, rfl, ⟨hB_7, hR_7, hN_7⟩, ⟨hG4_7, hG5_7, hG6_7⟩, hb_7⟩
        · go_simp
          have hB_3 := hB_2.alloc (.cells (mc zeroM) 28)
          have hR_3 := hR_2.alloc (.cells (mc zeroM) 28)
          have hN_3 := hN_2.alloc (.cells (mc zeroM) 28)
          have hG4_3 := hG4_2.alloc (.cells (mc zeroM) 28)
          have hG5_3 := hG5_2.alloc (.cells (mc zeroM) 28)
          have hb_3 := below_alloc' hb_2 (.cells (mc zeroM) 28)
          have hG6_3 : Blk (W2.alloc (.cells (mc zeroM) 28)) W2.heap.size (mc zeroM) 28 := Blk.new _ _ _
          have o6 := hN_2.lt
          have o64 := hG4_2.lt
          have o65 := hG5_2.lt
          refine hK.out _ _ hB_3 (fun hS => ?_)
          clear hK K hB_2 hR_2 hN_2 hG4_2 hG5_2 hb_2
          generalize W2.alloc (.cells (mc zeroM) 28) = W3 at *
          generalize W2.heap.size = g6 at *
          refine wpAnyH_ready (rs := [1]) (by kernel_rfl) (by simp) ?_
          refine (AllReadyH.cons rfl (fun K hK => ?_) AllReadyH.nil)
          · go_simp
            refine (l01Classes_calls M L S Hg.out _).mono ?_
            rintro e W4 ⟨rfl, hc⟩
            have hB_4 := hB_3.keptAll hc
            have hR_4 := hR_3.keptAll hc
            have hN_4 := hN_3.keptAll hc
            have hG4_4 := hG4_3.keptAll hc
            have hG5_4 := hG5_3.keptAll hc
            have hG6_4 := hG6_3.keptAll hc
            have hb_4 := below_step hb_3 hc
            clear hc hB_3 hR_3 hN_3 hG4_3 hG5_3 hG6_3 hb_3
            go_simp
            refine hK.out _ _ hB_4 (fun hS => ?_)
            clear hK K
            refine hK_store 9 rfl (by kernel_rfl) rfl 54 _ _ rfl g4 0 (ints (clsS M L S (S + 1))) rfl rfl _ _ hG4_4 (by rw [Hcs.out, Hz16.out]; omega) (by rw [Hcs.out]; exact size_i16) (ints_one _) _ Hco.out (fun W5 hs => ⟨hs.keep (by omega) hB_4, fun hS => ?_⟩)
            (intro K hK; go_simp; refine hK _ ?_; clear hK K)
            have hB_5 := hs.keep (by omega) hB_4
            have hR_5 := hs.keep (by omega) hR_4
            have hN_5 := hs.keep (by omega) hN_4
            have hG4_5 := hs.blk
            have hG5_5 := hs.keep (by omega) hG5_4
            have hG6_5 := hs.keep (by omega) hG6_4
            have hb_5 := hs.below _ _ (by omega) hb_4
            clear hs hB_4 hR_4 hN_4 hG4_4 hG5_4 hG6_4 hb_4
            refine hK_store 10 rfl (by kernel_rfl) rfl 54 _ _ rfl g5 0 (ints zer) rfl rfl _ _ hG5_5 (by rw [Hz16.out]; omega) (by rw [Hz16.out]; exact size_i16) (ints_one _) _ Hzo.out (fun W6 hs => ⟨hs.keep (by omega) hB_5, fun hS => ?_⟩)
            (intro K hK; go_simp; refine hK _ ?_; clear hK K)
            have hB_6 := hs.keep (by omega) hB_5
            have hR_6 := hs.keep (by omega) hR_5
            have hN_6 := hs.keep (by omega) hN_5
            have hG4_6 := hs.keep (by omega) hG4_5
            have hG5_6 := hs.blk
            have hG6_6 := hs.keep (by omega) hG6_5
            have hb_6 := hs.below _ _ (by omega) hb_5
            clear hs hB_5 hR_5 hN_5 hG4_5 hG5_5 hG6_5 hb_5
            refine hK_store 11 rfl (by kernel_rfl) rfl 28 _ _ rfl g6 0 (mc (blankM (L : Int) 0)) rfl rfl _ _ hG6_6 (by rw [Hzs.out, Hbs.out]; omega) (by rw [Hbs.out]; exact size_mach) (mc_one _) _ Hbo.out (fun W7 hs => ⟨hs.keep (by omega) hB_6, fun hS => ?_⟩)
            (intro K hK; go_simp; refine hK _ ?_; clear hK K)
            have hB_7 := hs.keep (by omega) hB_6
            have hR_7 := hs.keep (by omega) hR_6
            have hN_7 := hs.keep (by omega) hN_6
            have hG4_7 := hs.keep (by omega) hG4_6
            have hG5_7 := hs.keep (by omega) hG5_6
            have hG6_7 := hs.blk
            have hb_7 := hs.below _ _ (by omega) hb_6
            clear hs hB_6 hR_6 hN_6 hG4_6 hG5_6 hG6_6 hb_6
            refine wpAnyH_done (by kernel_rfl) ?_ _
            exact ⟨g4, g5, g6, by omega, rfl, ⟨hB_7, hR_7, hN_7⟩, ⟨hG4_7, hG5_7, hG6_7⟩, hb_7⟩
      · go_simp
        have hB_2 := hB_1.alloc (.cells (mc zeroM) 28)
        have hR_2 := hR_1.alloc (.cells (mc zeroM) 28)
        have hN_2 := hN_1.alloc (.cells (mc zeroM) 28)
        have hG4_2 := hG4_1.alloc (.cells (mc zeroM) 28)
        have hb_2 := below_alloc' hb_1 (.cells (mc zeroM) 28)
        have hG6_2 : Blk (W1.alloc (.cells (mc zeroM) 28)) W1.heap.size (mc zeroM) 28 := Blk.new _ _ _
        have o6 := hN_1.lt
        have o64 := hG4_1.lt
        refine hK.out _ _ hB_2 (fun hS => ?_)
        clear hK K hB_1 hR_1 hN_1 hG4_1 hb_1
        generalize W1.alloc (.cells (mc zeroM) 28) = W2 at *
        generalize W1.heap.size = g6 at *
        refine wpAnyH_ready (rs := [1, 7]) (by kernel_rfl) (by simp) ?_
        refine (AllReadyH.cons rfl (fun K hK => ?_) (AllReadyH.cons rfl (fun K hK => ?_) AllReadyH.nil))
        · go_simp
          refine (l01Classes_calls M L S Hg.out _).mono ?_
          rintro e W3 ⟨rfl, hc⟩
          have hB_3 := hB_2.keptAll hc
          have hR_3 := hR_2.keptAll hc
          have hN_3 := hN_2.keptAll hc
          have hG4_3 := hG4_2.keptAll hc
          have hG6_3 := hG6_2.keptAll hc
          have hb_3 := below_step hb_2 hc
          clear hc hB_2 hR_2 hN_2 hG4_2 hG6_2 hb_2
          go_simp
          refine hK.out _ _ hB_3 (fun hS => ?_)
          clear hK K
          refine wpAnyH_ready (rs := [7]) (by kernel_rfl) (by simp) ?_
          refine (AllReadyH.cons rfl (fun K hK => ?_) AllReadyH.nil)
          · go_simp
            have hB_4 := hB_3.alloc (.cells (ints zer) 54)
            have hR_4 := hR_3.alloc (.cells (ints zer) 54)
            have hN_4 := hN_3.alloc (.cells (ints zer) 54)
            have hG4_4 := hG4_3.alloc (.cells (ints zer) 54)
            have hG6_4 := hG6_3.alloc (.cells (ints zer) 54)
            have hb_4 := below_alloc' hb_3 (.cells (ints zer) 54)
            have hG5_4 : Blk (W3.alloc (.cells (ints zer) 54)) W3.heap.size (ints zer) 54 := Blk.new _ _ _
            have o5 := hN_3.lt
            have o54 := hG4_3.lt
            have o56 := hG6_3.lt
            refine hK.out _ _ hB_4 (fun hS => ?_)
            clear hK K hB_3 hR_3 hN_3 hG4_3 hG6_3 hb_3
            generalize W3.alloc (.cells (ints zer) 54) = W4 at *
            generalize W3.heap.size = g5 at *
            refine hK_store 9 rfl (by kernel_rfl) rfl 54 _ _ rfl g4 0 (ints (clsS M L S (S + 1))) rfl rfl _ _ hG4_4 (by rw [Hcs.out, Hz16.out]; omega) (by rw [Hcs.out]; exact size_i16) (ints_one _) _ Hco.out (fun W5 hs => ⟨hs.keep (by omega) hB_4, fun hS => ?_⟩)
            (intro K hK; go_simp; refine hK _ ?_; clear hK K)
            have hB_5 := hs.keep (by omega) hB_4
            have hR_5 := hs.keep (by omega) hR_4
            have hN_5 := hs.keep (by omega) hN_4
            have hG4_5 := hs.blk
            have hG5_5 := hs.keep (by omega) hG5_4
            have hG6_5 := hs.keep (by omega) hG6_4
            have hb_5 := hs.below _ _ (by omega) hb_4
            clear hs hB_4 hR_4 hN_4 hG4_4 hG5_4 hG6_4 hb_4
            refine hK_store 10 rfl (by kernel_rfl) rfl 54 _ _ rfl g5 0 (ints zer) rfl rfl _ _ hG5_5 (by rw [Hz16.out]; omega) (by rw [Hz16.out]; exact size_i16) (ints_one _) _ Hzo.out (fun W6 hs => ⟨hs.keep (by omega) hB_5, fun hS => ?_⟩)
            (intro K hK; go_simp; refine hK _ ?_; clear hK K)
            have hB_6 := hs.keep (by omega) hB_5
            have hR_6 := hs.keep (by omega) hR_5
            have hN_6 := hs.keep (by omega) hN_5
            have hG4_6 := hs.keep (by omega) hG4_5
            have hG5_6 := hs.blk
            have hG6_6 := hs.keep (by omega) hG6_5
            have hb_6 := hs.below _ _ (by omega) hb_5
            clear hs hB_5 hR_5 hN_5 hG4_5 hG5_5 hG6_5 hb_5
            refine hK_store 11 rfl (by kernel_rfl) rfl 28 _ _ rfl g6 0 (mc (blankM (L : Int) 0)) rfl rfl _ _ hG6_6 (by rw [Hzs.out, Hbs.out]; omega) (by rw [Hbs.out]; exact size_mach) (mc_one _) _ Hbo.out (fun W7 hs => ⟨hs.keep (by omega) hB_6, fun hS => ?_⟩)
            (intro K hK; go_simp; refine hK _ ?_; clear hK K)
            have hB_7 := hs.keep (by omega) hB_6
            have hR_7 := hs.keep (by omega) hR_6
            have hN_7 := hs.keep (by omega) hN_6
            have hG4_7 := hs.keep (by omega) hG4_6
            have hG5_7 := hs.keep (by omega) hG5_6
            have hG6_7 := hs.blk
            have hb_7 := hs.below _ _ (by omega) hb_6
            clear hs hB_6 hR_6 hN_6 hG4_6 hG5_6 hG6_6 hb_6
            refine wpAnyH_done (by kernel_rfl) ?_ _
            exact ⟨g4, g5, g6, by omega, rfl, ⟨hB_7, hR_7, hN_7⟩, ⟨hG4_7, hG5_7, hG6_7⟩, hb_7⟩
        · go_simp
          have hB_3 := hB_2.alloc (.cells (ints zer) 54)
          have hR_3 := hR_2.alloc (.cells (ints zer) 54)
          have hN_3 := hN_2.alloc (.cells (ints zer) 54)
          have hG4_3 := hG4_2.alloc (.cells (ints zer) 54)
          have hG6_3 := hG6_2.alloc (.cells (ints zer) 54)
          have hb_3 := below_alloc' hb_2 (.cells (ints zer) 54)
          have hG5_3 : Blk (W2.alloc (.cells (ints zer) 54)) W2.heap.size (ints zer) 54 := Blk.new _ _ _
          have o5 := hN_2.lt
          have o54 := hG4_2.lt
          have o56 := hG6_2.lt
          refine hK.out _ _ hB_3 (fun hS => ?_)
          clear hK K hB_2 hR_2 hN_2 hG4_2 hG6_2 hb_2
          generalize W2.alloc (.cells (ints zer) 54) = W3 at *
          generalize W2.heap.size = g5 at *
          refine wpAnyH_ready (rs := [1]) (by kernel_rfl) (by simp) ?_
          refine (AllReadyH.cons rfl (fun K hK => ?_) AllReadyH.nil)
          · go_simp
            refine (l01Classes_calls M L S Hg.out _).mono ?_
            rintro e W4 ⟨rfl, hc⟩
            have hB_4 := hB_3.keptAll hc
            have hR_4 := hR_3.keptAll hc
            have hN_4 := hN_3.keptAll hc
            have hG4_4 := hG4_3.keptAll hc
            have hG6_4 := hG6_3.keptAll hc
            have hG5_4 := hG5_3.keptAll hc
            have hb_4 := below_step hb_3 hc
            clear hc hB_3 hR_3 hN_3 hG4_3 hG6_3 hG5_3 hb_3
            go_simp
            refine hK.out _ _ hB_4 (fun hS => ?_)
            clear hK K
            refine hK_store 9 rfl (by kernel_rfl) rfl 54 _ _ rfl g4 0 (ints (clsS M L S (S + 1))) rfl rfl _ _ hG4_4 (by rw [Hcs.out, Hz16.out]; omega) (by rw [Hcs.out]; exact size_i16) (ints_one _) _ Hco.out (fun W5 hs => ⟨hs.keep (by omega) hB_4, fun hS => ?_⟩)
            (intro K hK; go_simp; refine hK _ ?_; clear hK K)
            have hB_5 := hs.keep (by omega) hB_4
            have hR_5 := hs.keep (by omega) hR_4
            have hN_5 := hs.keep (by omega) hN_4
            have hG4_5 := hs.blk
            have hG5_5 := hs.keep (by omega) hG5_4
            have hG6_5 := hs.keep (by omega) hG6_4
            have hb_5 := hs.below _ _ (by omega) hb_4
            clear hs hB_4 hR_4 hN_4 hG4_4 hG5_4 hG6_4 hb_4
            refine hK_store 10 rfl (by kernel_rfl) rfl 54 _ _ rfl g5 0 (ints zer) rfl rfl _ _ hG5_5 (by rw [Hz16.out]; omega) (by rw [Hz16.out]; exact size_i16) (ints_one _) _ Hzo.out (fun W6 hs => ⟨hs.keep (by omega) hB_5, fun hS => ?_⟩)
            (intro K hK; go_simp; refine hK _ ?_; clear hK K)
            have hB_6 := hs.keep (by omega) hB_5
            have hR_6 := hs.keep (by omega) hR_5
            have hN_6 := hs.keep (by omega) hN_5
            have hG4_6 := hs.keep (by omega) hG4_5
            have hG5_6 := hs.blk
            have hG6_6 := hs.keep (by omega) hG6_5
            have hb_6 := hs.below _ _ (by omega) hb_5
            clear hs hB_5 hR_5 hN_5 hG4_5 hG5_5 hG6_5 hb_5
            refine hK_store 11 rfl (by kernel_rfl) rfl 28 _ _ rfl g6 0 (mc (blankM (L : Int) 0)) rfl rfl _ _ hG6_6 (by rw [Hzs.out, Hbs.out]; omega) (by rw [Hbs.out]; exact size_mach) (mc_one _) _ Hbo.out (fun W7 hs => ⟨hs.keep (by omega) hB_6, fun hS => ?_⟩)
            (intro K hK; go_simp; refine hK _ ?_; clear hK K)
            have hB_7 := hs.keep (by omega) hB_6
            have hR_7 := hs.keep (by omega) hR_6
            have hN_7 := hs.keep (by omega) hN_6
            have hG4_7 := hs.keep (by omega) hG4_6
            have hG5_7 := hs.keep (by omega) hG5_6
            have hG6_7 := hs.blk
            have hb_7 := hs.below _ _ (by omega) hb_6
            clear hs hB_6 hR_6 hN_6 hG4_6 hG5_6 hG6_6 hb_6
            refine wpAnyH_done (by kernel_rfl) ?_ _
            exact ⟨g4, g5, g6, by omega, rfl, ⟨hB_7, hR_7, hN_7⟩, ⟨hG4_7, hG5_7, hG6_7⟩, hb_7⟩
    · go_simp
      have hB_1 := hB_0.alloc (.cells (ints zer) 54)
      have hR_1 := hR_0.alloc (.cells (ints zer) 54)
      have hN_1 := hN_0.alloc (.cells (ints zer) 54)
      have hb_1 := below_alloc' hb_0 (.cells (ints zer) 54)
      have hG5_1 : Blk (wd.alloc (.cells (ints zer) 54)) wd.heap.size (ints zer) 54 := Blk.new _ _ _
      have o5 := hN_0.lt
      refine hK.out _ _ hB_1 (fun hS => ?_)
      clear hK K hB_0 hR_0 hN_0 hb_0
      generalize wd.alloc (.cells (ints zer) 54) = W1 at *
      generalize wd.heap.size = g5 at *
      refine wpAnyH_ready (rs := [1, 6, 8]) (by kernel_rfl) (by simp) ?_
      refine (AllReadyH.cons rfl (fun K hK => ?_) (AllReadyH.cons rfl (fun K hK => ?_) (AllReadyH.cons rfl (fun K hK => ?_) AllReadyH.nil)))
      · go_simp
        refine (l01Classes_calls M L S Hg.out _).mono ?_
        rintro e W2 ⟨rfl, hc⟩
        have hB_2 := hB_1.keptAll hc
        have hR_2 := hR_1.keptAll hc
        have hN_2 := hN_1.keptAll hc
        have hG5_2 := hG5_1.keptAll hc
        have hb_2 := below_step hb_1 hc
        clear hc hB_1 hR_1 hN_1 hG5_1 hb_1
        go_simp
        refine hK.out _ _ hB_2 (fun hS => ?_)
        clear hK K
        refine wpAnyH_ready (rs := [6, 8]) (by kernel_rfl) (by simp) ?_
        refine (AllReadyH.cons rfl (fun K hK => ?_) (AllReadyH.cons rfl (fun K hK => ?_) AllReadyH.nil))
        · go_simp
          have hB_3 := hB_2.alloc (.cells (ints zer) 54)
          have hR_3 := hR_2.alloc (.cells (ints zer) 54)
          have hN_3 := hN_2.alloc (.cells (ints zer) 54)
          have hG5_3 := hG5_2.alloc (.cells (ints zer) 54)
          have hb_3 := below_alloc' hb_2 (.cells (ints zer) 54)
          have hG4_3 : Blk (W2.alloc (.cells (ints zer) 54)) W2.heap.size (ints zer) 54 := Blk.new _ _ _
          have o4 := hN_2.lt
          have o45 := hG5_2.lt
          refine hK.out _ _ hB_3 (fun hS => ?_)
          clear hK K hB_2 hR_2 hN_2 hG5_2 hb_2
          generalize W2.alloc (.cells (ints zer) 54) = W3 at *
          generalize W2.heap.size = g4 at *
          refine wpAnyH_ready (rs := [8]) (by kernel_rfl) (by simp) ?_
          refine (AllReadyH.cons rfl (fun K hK => ?_) AllReadyH.nil)
          · go_simp
            have hB_4 := hB_3.alloc (.cells (mc zeroM) 28)
            have hR_4 := hR_3.alloc (.cells (mc zeroM) 28)
            have hN_4 := hN_3.alloc (.cells (mc zeroM) 28)
            have hG5_4 := hG5_3.alloc (.cells (mc zeroM) 28)
            have hG4_4 := hG4_3.alloc (.cells (mc zeroM) 28)
            have hb_4 := below_alloc' hb_3 (.cells (mc zeroM) 28)
            have hG6_4 : Blk (W3.alloc (.cells (mc zeroM) 28)) W3.heap.size (mc zeroM) 28 := Blk.new _ _ _
            have o6 := hN_3.lt
            have o65 := hG5_3.lt
            have o64 := hG4_3.lt
            refine hK.out _ _ hB_4 (fun hS => ?_)
            clear hK K hB_3 hR_3 hN_3 hG5_3 hG4_3 hb_3
            generalize W3.alloc (.cells (mc zeroM) 28) = W4 at *
            generalize W3.heap.size = g6 at *
            refine hK_store 9 rfl (by kernel_rfl) rfl 54 _ _ rfl g4 0 (ints (clsS M L S (S + 1))) rfl rfl _ _ hG4_4 (by rw [Hcs.out, Hz16.out]; omega) (by rw [Hcs.out]; exact size_i16) (ints_one _) _ Hco.out (fun W5 hs => ⟨hs.keep (by omega) hB_4, fun hS => ?_⟩)
            (intro K hK; go_simp; refine hK _ ?_; clear hK K)
            have hB_5 := hs.keep (by omega) hB_4
            have hR_5 := hs.keep (by omega) hR_4
            have hN_5 := hs.keep (by omega) hN_4
            have hG4_5 := hs.blk
            have hG5_5 := hs.keep (by omega) hG5_4
            have hG6_5 := hs.keep (by omega) hG6_4
            have hb_5 := hs.below _ _ (by omega) hb_4
            clear hs hB_4 hR_4 hN_4 hG4_4 hG5_4 hG6_4 hb_4
            refine hK_store 10 rfl (by kernel_rfl) rfl 54 _ _ rfl g5 0 (ints zer) rfl rfl _ _ hG5_5 (by rw [Hz16.out]; omega) (by rw [Hz16.out]; exact size_i16) (ints_one _) _ Hzo.out (fun W6 hs => ⟨hs.keep (by omega) hB_5, fun hS => ?_⟩)
            (intro K hK; go_simp; refine hK _ ?_; clear hK K)
            have hB_6 := hs.keep (by omega) hB_5
            have hR_6 := hs.keep (by omega) hR_5
            have hN_6 := hs.keep (by omega) hN_5
            have hG4_6 := hs.keep (by omega) hG4_5
            have hG5_6 := hs.blk
            have hG6_6 := hs.keep (by omega) hG6_5
            have hb_6 := hs.below _ _ (by omega) hb_5
            clear hs hB_5 hR_5 hN_5 hG4_5 hG5_5 hG6_5 hb_5
            refine hK_store 11 rfl (by kernel_rfl) rfl 28 _ _ rfl g6 0 (mc (blankM (L : Int) 0)) rfl rfl _ _ hG6_6 (by rw [Hzs.out, Hbs.out]; omega) (by rw [Hbs.out]; exact size_mach) (mc_one _) _ Hbo.out (fun W7 hs => ⟨hs.keep (by omega) hB_6, fun hS => ?_⟩)
            (intro K hK; go_simp; refine hK _ ?_; clear hK K)
            have hB_7 := hs.keep (by omega) hB_6
            have hR_7 := hs.keep (by omega) hR_6
            have hN_7 := hs.keep (by omega) hN_6
            have hG4_7 := hs.keep (by omega) hG4_6
            have hG5_7 := hs.keep (by omega) hG5_6
            have hG6_7 := hs.blk
            have hb_7 := hs.below _ _ (by omega) hb_6
            clear hs hB_6 hR_6 hN_6 hG4_6 hG5_6 hG6_6 hb_6
            refine wpAnyH_done (by kernel_rfl) ?_ _
            exact ⟨g4, g5, g6, by omega, rfl, ⟨hB_7, hR_7, hN_7⟩, ⟨hG4_7, hG5_7, hG6_7⟩, hb_7⟩
        · go_simp
          have hB_3 := hB_2.alloc (.cells (mc zeroM) 28)
          have hR_3 := hR_2.alloc (.cells (mc zeroM) 28)
          have hN_3 := hN_2.alloc (.cells (mc zeroM) 28)
          have hG5_3 := hG5_2.alloc (.cells (mc zeroM) 28)
          have hb_3 := below_alloc' hb_2 (.cells (mc zeroM) 28)
          have hG6_3 : Blk (W2.alloc (.cells (mc zeroM) 28)) W2.heap.size (mc zeroM) 28 := Blk.new _ _ _
          have o6 := hN_2.lt
          have o65 := hG5_2.lt
          refine hK.out _ _ hB_3 (fun hS => ?_)
          clear hK K hB_2 hR_2 hN_2 hG5_2 hb_2
          generalize W2.alloc (.cells (mc zeroM) 28) = W3 at *
          generalize W2.heap.size = g6 at *
          refine wpAnyH_ready (rs := [6]) (by kernel_rfl) (by simp) ?_
          refine (AllReadyH.cons rfl (fun K hK => ?_) AllReadyH.nil)
          · go_simp
            have hB_4 := hB_3.alloc (.cells (ints zer) 54)
            have hR_4 := hR_3.alloc (.cells (ints zer) 54)
            have hN_4 := hN_3.alloc (.cells (ints zer) 54)
            have hG5_4 := hG5_3.alloc (.cells (ints zer) 54)
            have hG6_4 := hG6_3.alloc (.cells (ints zer) 54)
            have hb_4 := below_alloc' hb_3 (.cells (ints zer) 54)
            have hG4_4 : Blk (W3.alloc (.cells (ints zer) 54)) W3.heap.size (ints zer) 54 := Blk.new _ _ _
            have o4 := hN_3.lt
            have o45 := hG5_3.lt
            have o46 := hG6_3.lt
            refine hK.out _ _ hB_4 (fun hS => ?_)
            clear hK K hB_3 hR_3 hN_3 hG5_3 hG6_3 hb_3
            generalize W3.alloc (.cells (ints zer) 54) = W4 at *
            generalize W3.heap.size = g4 at *
            refine hK_store 9 rfl (by kernel_rfl) rfl 54 _ _ rfl g4 0 (ints (clsS M L S (S + 1))) rfl rfl _ _ hG4_4 (by rw [Hcs.out, Hz16.out]; omega) (by rw [Hcs.out]; exact size_i16) (ints_one _) _ Hco.out (fun W5 hs => ⟨hs.keep (by omega) hB_4, fun hS => ?_⟩)
            (intro K hK; go_simp; refine hK _ ?_; clear hK K)
            have hB_5 := hs.keep (by omega) hB_4
            have hR_5 := hs.keep (by omega) hR_4
            have hN_5 := hs.keep (by omega) hN_4
            have hG4_5 := hs.blk
            have hG5_5 := hs.keep (by omega) hG5_4
            have hG6_5 := hs.keep (by omega) hG6_4
            have hb_5 := hs.below _ _ (by omega) hb_4
            clear hs hB_4 hR_4 hN_4 hG4_4 hG5_4 hG6_4 hb_4
            refine hK_store 10 rfl (by kernel_rfl) rfl 54 _ _ rfl g5 0 (ints zer) rfl rfl _ _ hG5_5 (by rw [Hz16.out]; omega) (by rw [Hz16.out]; exact size_i16) (ints_one _) _ Hzo.out (fun W6 hs => ⟨hs.keep (by omega) hB_5, fun hS => ?_⟩)
            (intro K hK; go_simp; refine hK _ ?_; clear hK K)
            have hB_6 := hs.keep (by omega) hB_5
            have hR_6 := hs.keep (by omega) hR_5
            have hN_6 := hs.keep (by omega) hN_5
            have hG4_6 := hs.keep (by omega) hG4_5
            have hG5_6 := hs.blk
            have hG6_6 := hs.keep (by omega) hG6_5
            have hb_6 := hs.below _ _ (by omega) hb_5
            clear hs hB_5 hR_5 hN_5 hG4_5 hG5_5 hG6_5 hb_5
            refine hK_store 11 rfl (by kernel_rfl) rfl 28 _ _ rfl g6 0 (mc (blankM (L : Int) 0)) rfl rfl _ _ hG6_6 (by rw [Hzs.out, Hbs.out]; omega) (by rw [Hbs.out]; exact size_mach) (mc_one _) _ Hbo.out (fun W7 hs => ⟨hs.keep (by omega) hB_6, fun hS => ?_⟩)
            (intro K hK; go_simp; refine hK _ ?_; clear hK K)
            have hB_7 := hs.keep (by omega) hB_6
            have hR_7 := hs.keep (by omega) hR_6
            have hN_7 := hs.keep (by omega) hN_6
            have hG4_7 := hs.keep (by omega) hG4_6
            have hG5_7 := hs.keep (by omega) hG5_6
            have hG6_7 := hs.blk
            have hb_7 := hs.below _ _ (by omega) hb_6
            clear hs hB_6 hR_6 hN_6 hG4_6 hG5_6 hG6_6 hb_6
            refine wpAnyH_done (by kernel_rfl) ?_ _
            exact ⟨g4, g5, g6, by omega, rfl, ⟨hB_7, hR_7, hN_7⟩, ⟨hG4_7, hG5_7, hG6_7⟩, hb_7⟩
      · go_simp
        have hB_2 := hB_1.alloc (.cells (ints zer) 54)
        have hR_2 := hR_1.alloc (.cells (ints zer) 54)
        have hN_2 := hN_1.alloc (.cells (ints zer) 54)
        have hG5_2 := hG5_1.alloc (.cells (ints zer) 54)
        have hb_2 := below_alloc' hb_1 (.cells (ints zer) 54)
        have hG4_2 : Blk (W1.alloc (.cells (ints zer) 54)) W1.heap.size (ints zer) 54 := Blk.new _ _ _
        have o4 := hN_1.lt
        have o45 := hG5_1.lt
        refine hK.out _ _ hB_2 (fun hS => ?_)
        clear hK K hB_1 hR_1 hN_1 hG5_1 hb_1
        generalize W1.alloc (.cells (ints zer) 54) = W2 at *
        generalize W1.heap.size = g4 at *
        refine wpAnyH_ready (rs := [1, 8]) (by kernel_rfl) (by simp) ?_
        refine (AllReadyH.cons rfl (fun K hK => ?_) (AllReadyH.cons rfl (fun K hK => ?_) AllReadyH.nil))
        · go_simp
          refine (l01Classes_calls M L S Hg.out _).mono ?_
          rintro e W3 ⟨rfl, hc⟩
          have hB_3 := hB_2.keptAll hc
          have hR_3 := hR_2.keptAll hc
          have hN_3 := hN_2.keptAll hc
          have hG5_3 := hG5_2.keptAll hc
          have hG4_3 := hG4_2.keptAll hc
          have hb_3 := below_step hb_2 hc
          clear hc hB_2 hR_2 hN_2 hG5_2 hG4_2 hb_2
          go_simp
          refine hK.out _ _ hB_3 (fun hS => ?_)
          clear hK K
          refine wpAnyH_ready (rs := [8]) (by kernel_rfl) (by simp) ?_
          refine (AllReadyH.cons rfl (fun K hK => ?_) AllReadyH.nil)
          · go_simp
            have hB_4 := hB_3.alloc (.cells (mc zeroM) 28)
            have hR_4 := hR_3.alloc (.cells (mc zeroM) 28)
            have hN_4 := hN_3.alloc (.cells (mc zeroM) 28)
            have hG5_4 := hG5_3.alloc (.cells (mc zeroM) 28)
            have hG4_4 := hG4_3.alloc (.cells (mc zeroM) 28)
            have hb_4 := below_alloc' hb_3 (.cells (mc zeroM) 28)
            have hG6_4 : Blk (W3.alloc (.cells (mc zeroM) 28)) W3.heap.size (mc zeroM) 28 := Blk.new _ _ _
            have o6 := hN_3.lt
            have o65 := hG5_3.lt
            have o64 := hG4_3.lt
            refine hK.out _ _ hB_4 (fun hS => ?_)
            clear hK K hB_3 hR_3 hN_3 hG5_3 hG4_3 hb_3
            generalize W3.alloc (.cells (mc zeroM) 28) = W4 at *
            generalize W3.heap.size = g6 at *
            refine hK_store 9 rfl (by kernel_rfl) rfl 54 _ _ rfl g4 0 (ints (clsS M L S (S + 1))) rfl rfl _ _ hG4_4 (by rw [Hcs.out, Hz16.out]; omega) (by rw [Hcs.out]; exact size_i16) (ints_one _) _ Hco.out (fun W5 hs => ⟨hs.keep (by omega) hB_4, fun hS => ?_⟩)
            (intro K hK; go_simp; refine hK _ ?_; clear hK K)
            have hB_5 := hs.keep (by omega) hB_4
            have hR_5 := hs.keep (by omega) hR_4
            have hN_5 := hs.keep (by omega) hN_4
            have hG4_5 := hs.blk
            have hG5_5 := hs.keep (by omega) hG5_4
            have hG6_5 := hs.keep (by omega) hG6_4
            have hb_5 := hs.below _ _ (by omega) hb_4
            clear hs hB_4 hR_4 hN_4 hG4_4 hG5_4 hG6_4 hb_4
            refine hK_store 10 rfl (by kernel_rfl) rfl 54 _ _ rfl g5 0 (ints zer) rfl rfl _ _ hG5_5 (by rw [Hz16.out]; omega) (by rw [Hz16.out]; exact size_i16) (ints_one _) _ Hzo.out (fun W6 hs => ⟨hs.keep (by omega) hB_5, fun hS => ?_⟩)
            (intro K hK; go_simp; refine hK _ ?_; clear hK K)
            have hB_6 := hs.keep (by omega) hB_5
            have hR_6 := hs.keep (by omega) hR_5
            have hN_6 := hs.keep (by omega) hN_5
            have hG4_6 := hs.keep (by omega) hG4_5
            have hG5_6 := hs.blk
            have hG6_6 := hs.keep (by omega) hG6_5
            have hb_6 := hs.below _ _ (by omega) hb_5
            clear hs hB_5 hR_5 hN_5 hG4_5 hG5_5 hG6_5 hb_5
            refine hK_store 11 rfl (by kernel_rfl) rfl 28 _ _ rfl g6 0 (mc (blankM (L : Int) 0)) rfl rfl _ _ hG6_6 (by rw [Hzs.out, Hbs.out]; omega) (by rw [Hbs.out]; exact size_mach) (mc_one _) _ Hbo.out (fun W7 hs => ⟨hs.keep (by omega) hB_6, fun hS => ?_⟩)
            (intro K hK; go_simp; refine hK _ ?_; clear hK K)
            have hB_7 := hs.keep (by omega) hB_6
            have hR_7 := hs.keep (by omega) hR_6
            have hN_7 := hs.keep (by omega) hN_6
            have hG4_7 := hs.keep (by omega) hG4_6
            have hG5_7 := hs.keep (by omega) hG5_6
            have hG6_7 := hs.blk
            have hb_7 := hs.below _ _ (by omega) hb_6
            clear hs hB_6 hR_6 hN_6 hG4_6 hG5_6 hG6_6 hb_6
            refine wpAnyH_done (by kernel_rfl) ?_ _
            exact ⟨g4, g5, g6, by omega, rfl, ⟨hB_7, hR_7, hN_7⟩, ⟨hG4_7, hG5_7, hG6_7⟩, hb_7⟩
        · go_simp
          have hB_3 := hB_2.alloc (.cells (mc zeroM) 28)
          have hR_3 := hR_2.alloc (.cells (mc zeroM) 28)
          have hN_3 := hN_2.alloc (.cells (mc zeroM) 28)
          have hG5_3 := hG5_2.alloc (.cells (mc zeroM) 28)
          have hG4_3 := hG4_2.alloc (.cells (mc zeroM) 28)
          have hb_3 := below_alloc' hb_2 (.cells (mc zeroM) 28)
          have hG6_3 : Blk (W2.alloc (.cells (mc zeroM) 28)) W2.heap.size (mc zeroM) 28 := Blk.new _ _ _
          have o6 := hN_2.lt
          have o65 := hG5_2.lt
          have o64 := hG4_2.lt
          refine hK.out _ _ hB_3 (fun hS => ?_)
          clear hK K hB_2 hR_2 hN_2 hG5_2 hG4_2 hb_2
          generalize W2.alloc (.cells (mc zeroM) 28) = W3 at *
          generalize W2.heap.size = g6 at *
          refine wpAnyH_ready (rs := [1]) (by kernel_rfl) (by simp) ?_
          refine (AllReadyH.cons rfl (fun K hK => ?_) AllReadyH.nil)
          · go_simp
            refine (l01Classes_calls M L S Hg.out _).mono ?_
            rintro e W4 ⟨rfl, hc⟩
            have hB_4 := hB_3.keptAll hc
            have hR_4 := hR_3.keptAll hc
            have hN_4 := hN_3.keptAll hc
            have hG5_4 := hG5_3.keptAll hc
            have hG4_4 := hG4_3.keptAll hc
            have hG6_4 := hG6_3.keptAll hc
            have hb_4 := below_step hb_3 hc
            clear hc hB_3 hR_3 hN_3 hG5_3 hG4_3 hG6_3 hb_3
            go_simp
            refine hK.out _ _ hB_4 (fun hS => ?_)
            clear hK K
            refine hK_store 9 rfl (by kernel_rfl) rfl 54 _ _ rfl g4 0 (ints (clsS M L S (S + 1))) rfl rfl _ _ hG4_4 (by rw [Hcs.out, Hz16.out]; omega) (by rw [Hcs.out]; exact size_i16) (ints_one _) _ Hco.out (fun W5 hs => ⟨hs.keep (by omega) hB_4, fun hS => ?_⟩)
            (intro K hK; go_simp; refine hK _ ?_; clear hK K)
            have hB_5 := hs.keep (by omega) hB_4
            have hR_5 := hs.keep (by omega) hR_4
            have hN_5 := hs.keep (by omega) hN_4
            have hG4_5 := hs.blk
            have hG5_5 := hs.keep (by omega) hG5_4
            have hG6_5 := hs.keep (by omega) hG6_4
            have hb_5 := hs.below _ _ (by omega) hb_4
            clear hs hB_4 hR_4 hN_4 hG4_4 hG5_4 hG6_4 hb_4
            refine hK_store 10 rfl (by kernel_rfl) rfl 54 _ _ rfl g5 0 (ints zer) rfl rfl _ _ hG5_5 (by rw [Hz16.out]; omega) (by rw [Hz16.out]; exact size_i16) (ints_one _) _ Hzo.out (fun W6 hs => ⟨hs.keep (by omega) hB_5, fun hS => ?_⟩)
            (intro K hK; go_simp; refine hK _ ?_; clear hK K)
            have hB_6 := hs.keep (by omega) hB_5
            have hR_6 := hs.keep (by omega) hR_5
            have hN_6 := hs.keep (by omega) hN_5
            have hG4_6 := hs.keep (by omega) hG4_5
            have hG5_6 := hs.blk
            have hG6_6 := hs.keep (by omega) hG6_5
            have hb_6 := hs.below _ _ (by omega) hb_5
            clear hs hB_5 hR_5 hN_5 hG4_5 hG5_5 hG6_5 hb_5
            refine hK_store 11 rfl (by kernel_rfl) rfl 28 _ _ rfl g6 0 (mc (blankM (L : Int) 0)) rfl rfl _ _ hG6_6 (by rw [Hzs.out, Hbs.out]; omega) (by rw [Hbs.out]; exact size_mach) (mc_one _) _ Hbo.out (fun W7 hs => ⟨hs.keep (by omega) hB_6, fun hS => ?_⟩)
            (intro K hK; go_simp; refine hK _ ?_; clear hK K)
            have hB_7 := hs.keep (by omega) hB_6
            have hR_7 := hs.keep (by omega) hR_6
            have hN_7 := hs.keep (by omega) hN_6
            have hG4_7 := hs.keep (by omega) hG4_6
            have hG5_7 := hs.keep (by omega) hG5_6
            have hG6_7 := hs.blk
            have hb_7 := hs.below _ _ (by omega) hb_6
            clear hs hB_6 hR_6 hN_6 hG4_6 hG5_6 hG6_6 hb_6
            refine wpAnyH_done (by kernel_rfl) ?_ _
            exact ⟨g4, g5, g6, by omega, rfl, ⟨hB_7, hR_7, hN_7⟩, ⟨hG4_7, hG5_7, hG6_7⟩, hb_7⟩
      · go_simp
        have hB_2 := hB_1.alloc (.cells (mc zeroM) 28)
        have hR_2 := hR_1.alloc (.cells (mc zeroM) 28)
        have hN_2 := hN_1.alloc (.cells (mc zeroM) 28)
        have hG5_2 := hG5_1.alloc (.cells (mc zeroM) 28)
        have hb_2 := below_alloc' hb_1 (.cells (mc zeroM) 28)
        have hG6_2 : Blk (W1.alloc (.cells (mc zeroM) 28)) W1.heap.size (mc zeroM) 28 := Blk.new _ _ _
        have o6 := hN_1.lt
        have o65 := hG5_1.lt
        refine hK.out _ _ hB_2 (fun hS => ?_)
        clear hK K hB_1 hR_1 hN_1 hG5_1 hb_1
        generalize W1.alloc (.cells (mc zeroM) 28) = W2 at *
        generalize W1.heap.size = g6 at *
        refine wpAnyH_ready (rs := [1, 6]) (by kernel_rfl) (by simp) ?_
        refine (AllReadyH.cons rfl (fun K hK => ?_) (AllReadyH.cons rfl (fun K hK => ?_) AllReadyH.nil))
        · go_simp
          refine (l01Classes_calls M L S Hg.out _).mono ?_
          rintro e W3 ⟨rfl, hc⟩
          have hB_3 := hB_2.keptAll hc
          have hR_3 := hR_2.keptAll hc
          have hN_3 := hN_2.keptAll hc
          have hG5_3 := hG5_2.keptAll hc
          have hG6_3 := hG6_2.keptAll hc
          have hb_3 := below_step hb_2 hc
          clear hc hB_2 hR_2 hN_2 hG5_2 hG6_2 hb_2
          go_simp
          refine hK.out _ _ hB_3 (fun hS => ?_)
          clear hK K
          refine wpAnyH_ready (rs := [6]) (by kernel_rfl) (by simp) ?_
          refine (AllReadyH.cons rfl (fun K hK => ?_) AllReadyH.nil)
          · go_simp
            have hB_4 := hB_3.alloc (.cells (ints zer) 54)
            have hR_4 := hR_3.alloc (.cells (ints zer) 54)
            have hN_4 := hN_3.alloc (.cells (ints zer) 54)
            have hG5_4 := hG5_3.alloc (.cells (ints zer) 54)
            have hG6_4 := hG6_3.alloc (.cells (ints zer) 54)
            have hb_4 := below_alloc' hb_3 (.cells (ints zer) 54)
            have hG4_4 : Blk (W3.alloc (.cells (ints zer) 54)) W3.heap.size (ints zer) 54 := Blk.new _ _ _
            have o4 := hN_3.lt
            have o45 := hG5_3.lt
            have o46 := hG6_3.lt
            refine hK.out _ _ hB_4 (fun hS => ?_)
            clear hK K hB_3 hR_3 hN_3 hG5_3 hG6_3 hb_3
            generalize W3.alloc (.cells (ints zer) 54) = W4 at *
            generalize W3.heap.size = g4 at *
            refine hK_store 9 rfl (by kernel_rfl) rfl 54 _ _ rfl g4 0 (ints (clsS M L S (S + 1))) rfl rfl _ _ hG4_4 (by rw [Hcs.out, Hz16.out]; omega) (by rw [Hcs.out]; exact size_i16) (ints_one _) _ Hco.out (fun W5 hs => ⟨hs.keep (by omega) hB_4, fun hS => ?_⟩)
            (intro K hK; go_simp; refine hK _ ?_; clear hK K)
            have hB_5 := hs.keep (by omega) hB_4
            have hR_5 := hs.keep (by omega) hR_4
            have hN_5 := hs.keep (by omega) hN_4
            have hG4_5 := hs.blk
            have hG5_5 := hs.keep (by omega) hG5_4
            have hG6_5 := hs.keep (by omega) hG6_4
            have hb_5 := hs.below _ _ (by omega) hb_4
            clear hs hB_4 hR_4 hN_4 hG4_4 hG5_4 hG6_4 hb_4
            refine hK_store 10 rfl (by kernel_rfl) rfl 54 _ _ rfl g5 0 (ints zer) rfl rfl _ _ hG5_5 (by rw [Hz16.out]; omega) (by rw [Hz16.out]; exact size_i16) (ints_one _) _ Hzo.out (fun W6 hs => ⟨hs.keep (by omega) hB_5, fun hS => ?_⟩)
            (intro K hK; go_simp; refine hK _ ?_; clear hK K)
            have hB_6 := hs.keep (by omega) hB_5
            have hR_6 := hs.keep (by omega) hR_5
            have hN_6 := hs.keep (by omega) hN_5
            have hG4_6 := hs.keep (by omega) hG4_5
            have hG5_6 := hs.blk
            have hG6_6 := hs.keep (by omega) hG6_5
            have hb_6 := hs.below _ _ (by omega) hb_5
            clear hs hB_5 hR_5 hN_5 hG4_5 hG5_5 hG6_5 hb_5
            refine hK_store 11 rfl (by kernel_rfl) rfl 28 _ _ rfl g6 0 (mc (blankM (L : Int) 0)) rfl rfl _ _ hG6_6 (by rw [Hzs.out, Hbs.out]; omega) (by rw [Hbs.out]; exact size_mach) (mc_one _) _ Hbo.out (fun W7 hs => ⟨hs.keep (by omega) hB_6, fun hS => ?_⟩)
            (intro K hK; go_simp; refine hK _ ?_; clear hK K)
            have hB_7 := hs.keep (by omega) hB_6
            have hR_7 := hs.keep (by omega) hR_6
            have hN_7 := hs.keep (by omega) hN_6
            have hG4_7 := hs.keep (by omega) hG4_6
            have hG5_7 := hs.keep (by omega) hG5_6
            have hG6_7 := hs.blk
            have hb_7 := hs.below _ _ (by omega) hb_6
            clear hs hB_6 hR_6 hN_6 hG4_6 hG5_6 hG6_6 hb_6
            refine wpAnyH_done (by kernel_rfl) ?_ _
            exact ⟨g4, g5, g6, by omega, rfl, ⟨hB_7, hR_7, hN_7⟩, ⟨hG4_7, hG5_7, hG6_7⟩, hb_7⟩
        · go_simp
          have hB_3 := hB_2.alloc (.cells (ints zer) 54)
          have hR_3 := hR_2.alloc (.cells (ints zer) 54)
          have hN_3 := hN_2.alloc (.cells (ints zer) 54)
          have hG5_3 := hG5_2.alloc (.cells (ints zer) 54)
          have hG6_3 := hG6_2.alloc (.cells (ints zer) 54)
          have hb_3 := below_alloc' hb_2 (.cells (ints zer) 54)
          have hG4_3 : Blk (W2.alloc (.cells (ints zer) 54)) W2.heap.size (ints zer) 54 := Blk.new _ _ _
          have o4 := hN_2.lt
          have o45 := hG5_2.lt
          have o46 := hG6_2.lt
          refine hK.out _ _ hB_3 (fun hS => ?_)
          clear hK K hB_2 hR_2 hN_2 hG5_2 hG6_2 hb_2
          generalize W2.alloc (.cells (ints zer) 54) = W3 at *
          generalize W2.heap.size = g4 at *
          refine wpAnyH_ready (rs := [1]) (by kernel_rfl) (by simp) ?_
          refine (AllReadyH.cons rfl (fun K hK => ?_) AllReadyH.nil)
          · go_simp
            refine (l01Classes_calls M L S Hg.out _).mono ?_
            rintro e W4 ⟨rfl, hc⟩
            have hB_4 := hB_3.keptAll hc
            have hR_4 := hR_3.keptAll hc
            have hN_4 := hN_3.keptAll hc
            have hG5_4 := hG5_3.keptAll hc
            have hG6_4 := hG6_3.keptAll hc
            have hG4_4 := hG4_3.keptAll hc
            have hb_4 := below_step hb_3 hc
            clear hc hB_3 hR_3 hN_3 hG5_3 hG6_3 hG4_3 hb_3
            go_simp
            refine hK.out _ _ hB_4 (fun hS => ?_)
            clear hK K
            refine hK_store 9 rfl (by kernel_rfl) rfl 54 _ _ rfl g4 0 (ints (clsS M L S (S + 1))) rfl rfl _ _ hG4_4 (by rw [Hcs.out, Hz16.out]; omega) (by rw [Hcs.out]; exact size_i16) (ints_one _) _ Hco.out (fun W5 hs => ⟨hs.keep (by omega) hB_4, fun hS => ?_⟩)
            (intro K hK; go_simp; refine hK _ ?_; clear hK K)
            have hB_5 := hs.keep (by omega) hB_4
            have hR_5 := hs.keep (by omega) hR_4
            have hN_5 := hs.keep (by omega) hN_4
            have hG4_5 := hs.blk
            have hG5_5 := hs.keep (by omega) hG5_4
            have hG6_5 := hs.keep (by omega) hG6_4
            have hb_5 := hs.below _ _ (by omega) hb_4
            clear hs hB_4 hR_4 hN_4 hG4_4 hG5_4 hG6_4 hb_4
            refine hK_store 10 rfl (by kernel_rfl) rfl 54 _ _ rfl g5 0 (ints zer) rfl rfl _ _ hG5_5 (by rw [Hz16.out]; omega) (by rw [Hz16.out]; exact size_i16) (ints_one _) _ Hzo.out (fun W6 hs => ⟨hs.keep (by omega) hB_5, fun hS => ?_⟩)
            (intro K hK; go_simp; refine hK _ ?_; clear hK K)
            have hB_6 := hs.keep (by omega) hB_5
            have hR_6 := hs.keep (by omega) hR_5
            have hN_6 := hs.keep (by omega) hN_5
            have hG4_6 := hs.keep (by omega) hG4_5
            have hG5_6 := hs.blk
            have hG6_6 := hs.keep (by omega) hG6_5
            have hb_6 := hs.below _ _ (by omega) hb_5
            clear hs hB_5 hR_5 hN_5 hG4_5 hG5_5 hG6_5 hb_5
            refine hK_store 11 rfl (by kernel_rfl) rfl 28 _ _ rfl g6 0 (mc (blankM (L : Int) 0)) rfl rfl _ _ hG6_6 (by rw [Hzs.out, Hbs.out]; omega) (by rw [Hbs.out]; exact size_mach) (mc_one _) _ Hbo.out (fun W7 hs => ⟨hs.keep (by omega) hB_6, fun hS => ?_⟩)
            (intro K hK; go_simp; refine hK _ ?_; clear hK K)
            have hB_7 := hs.keep (by omega) hB_6
            have hR_7 := hs.keep (by omega) hR_6
            have hN_7 := hs.keep (by omega) hN_6
            have hG4_7 := hs.keep (by omega) hG4_6
            have hG5_7 := hs.keep (by omega) hG5_6
            have hG6_7 := hs.blk
            have hb_7 := hs.below _ _ (by omega) hb_6
            clear hs hB_6 hR_6 hN_6 hG4_6 hG5_6 hG6_6 hb_6
            refine wpAnyH_done (by kernel_rfl) ?_ _
            exact ⟨g4, g5, g6, by omega, rfl, ⟨hB_7, hR_7, hN_7⟩, ⟨hG4_7, hG5_7, hG6_7⟩, hb_7⟩
    · go_simp
      have hB_1 := hB_0.alloc (.cells (mc zeroM) 28)
      have hR_1 := hR_0.alloc (.cells (mc zeroM) 28)
      have hN_1 := hN_0.alloc (.cells (mc zeroM) 28)
      have hb_1 := below_alloc' hb_0 (.cells (mc zeroM) 28)
      have hG6_1 : Blk (wd.alloc (.cells (mc zeroM) 28)) wd.heap.size (mc zeroM) 28 := Blk.new _ _ _
      have o6 := hN_0.lt
      refine hK.out _ _ hB_1 (fun hS => ?_)
      clear hK K hB_0 hR_0 hN_0 hb_0
      generalize wd.alloc (.cells (mc zeroM) 28) = W1 at *
      generalize wd.heap.size = g6 at *
      refine wpAnyH_ready (rs := [1, 6, 7]) (by kernel_rfl) (by simp) ?_
      refine (AllReadyH.cons rfl (fun K hK => ?_) (AllReadyH.cons rfl (fun K hK => ?_) (AllReadyH.cons rfl (fun K hK => ?_) AllReadyH.nil)))
      · go_simp
        refine (l01Classes_calls M L S Hg.out _).mono ?_
        rintro e W2 ⟨rfl, hc⟩
        have hB_2 := hB_1.keptAll hc
        have hR_2 := hR_1.keptAll hc
        have hN_2 := hN_1.keptAll hc
        have hG6_2 := hG6_1.keptAll hc
        have hb_2 := below_step hb_1 hc
        clear hc hB_1 hR_1 hN_1 hG6_1 hb_1
        go_simp
        refine hK.out _ _ hB_2 (fun hS => ?_)
        clear hK K
        refine wpAnyH_ready (rs := [6, 7]) (by kernel_rfl) (by simp) ?_
        refine (AllReadyH.cons rfl (fun K hK => ?_) (AllReadyH.cons rfl (fun K hK => ?_) AllReadyH.nil))
        · go_simp
          have hB_3 := hB_2.alloc (.cells (ints zer) 54)
          have hR_3 := hR_2.alloc (.cells (ints zer) 54)
          have hN_3 := hN_2.alloc (.cells (ints zer) 54)
          have hG6_3 := hG6_2.alloc (.cells (ints zer) 54)
          have hb_3 := below_alloc' hb_2 (.cells (ints zer) 54)
          have hG4_3 : Blk (W2.alloc (.cells (ints zer) 54)) W2.heap.size (ints zer) 54 := Blk.new _ _ _
          have o4 := hN_2.lt
          have o46 := hG6_2.lt
          refine hK.out _ _ hB_3 (fun hS => ?_)
          clear hK K hB_2 hR_2 hN_2 hG6_2 hb_2
          generalize W2.alloc (.cells (ints zer) 54) = W3 at *
          generalize W2.heap.size = g4 at *
          refine wpAnyH_ready (rs := [7]) (by kernel_rfl) (by simp) ?_
          refine (AllReadyH.cons rfl (fun K hK => ?_) AllReadyH.nil)
          · go_simp
            have hB_4 := hB_3.alloc (.cells (ints zer) 54)
            have hR_4 := hR_3.alloc (.cells (ints zer) 54)
            have hN_4 := hN_3.alloc (.cells (ints zer) 54)
            have hG6_4 := hG6_3.alloc (.cells (ints zer) 54)
            have hG4_4 := hG4_3.alloc (.cells (ints zer) 54)
            have hb_4 := below_alloc' hb_3 (.cells (ints zer) 54)
            have hG5_4 : Blk (W3.alloc (.cells (ints zer) 54)) W3.heap.size (ints zer) 54 := Blk.new _ _ _
            have o5 := hN_3.lt
            have o56 := hG6_3.lt
            have o54 := hG4_3.lt
            refine hK.out _ _ hB_4 (fun hS => ?_)
            clear hK K hB_3 hR_3 hN_3 hG6_3 hG4_3 hb_3
            generalize W3.alloc (.cells (ints zer) 54) = W4 at *
            generalize W3.heap.size = g5 at *
            refine hK_store 9 rfl (by kernel_rfl) rfl 54 _ _ rfl g4 0 (ints (clsS M L S (S + 1))) rfl rfl _ _ hG4_4 (by rw [Hcs.out, Hz16.out]; omega) (by rw [Hcs.out]; exact size_i16) (ints_one _) _ Hco.out (fun W5 hs => ⟨hs.keep (by omega) hB_4, fun hS => ?_⟩)
            (intro K hK; go_simp; refine hK _ ?_; clear hK K)
            have hB_5 := hs.keep (by omega) hB_4
            have hR_5 := hs.keep (by omega) hR_4
            have hN_5 := hs.keep (by omega) hN_4
            have hG4_5 := hs.blk
            have hG5_5 := hs.keep (by omega) hG5_4
            have hG6_5 := hs.keep (by omega) hG6_4
            have hb_5 := hs.below _ _ (by omega) hb_4
            clear hs hB_4 hR_4 hN_4 hG4_4 hG5_4 hG6_4 hb_4
            refine hK_store 10 rfl (by kernel_rfl) rfl 54 _ _ rfl g5 0 (ints zer) rfl rfl _ _ hG5_5 (by rw [Hz16.out]; omega) (by rw [Hz16.out]; exact size_i16) (ints_one _) _ Hzo.out (fun W6 hs => ⟨hs.keep (by omega) hB_5, fun hS => ?_⟩)
            (intro K hK; go_simp; refine hK _ ?_; clear hK K)
            have hB_6 := hs.keep (by omega) hB_5
            have hR_6 := hs.keep (by omega) hR_5
            have hN_6 := hs.keep (by omega) hN_5
            have hG4_6 := hs.keep (by omega) hG4_5
            have hG5_6 := hs.blk
            have hG6_6 := hs.keep (by omega) hG6_5
            have hb_6 := hs.below _ _ (by omega) hb_5
            clear hs hB_5 hR_5 hN_5 hG4_5 hG5_5 hG6_5 hb_5
            refine hK_store 11 rfl (by kernel_rfl) rfl 28 _ _ rfl g6 0 (mc (blankM (L : Int) 0)) rfl rfl _ _ hG6_6 (by rw [Hzs.out, Hbs.out]; omega) (by rw [Hbs.out]; exact size_mach) (mc_one _) _ Hbo.out (fun W7 hs => ⟨hs.keep (by omega) hB_6, fun hS => ?_⟩)
            (intro K hK; go_simp; refine hK _ ?_; clear hK K)
            have hB_7 := hs.keep (by omega) hB_6
            have hR_7 := hs.keep (by omega) hR_6
            have hN_7 := hs.keep (by omega) hN_6
            have hG4_7 := hs.keep (by omega) hG4_6
            have hG5_7 := hs.keep (by omega) hG5_6
            have hG6_7 := hs.blk
            have hb_7 := hs.below _ _ (by omega) hb_6
            clear hs hB_6 hR_6 hN_6 hG4_6 hG5_6 hG6_6 hb_6
            refine wpAnyH_done (by kernel_rfl) ?_ _
            exact ⟨g4, g5, g6, by omega, rfl, ⟨hB_7, hR_7, hN_7⟩, ⟨hG4_7, hG5_7, hG6_7⟩, hb_7⟩
        · go_simp
          have hB_3 := hB_2.alloc (.cells (ints zer) 54)
          have hR_3 := hR_2.alloc (.cells (ints zer) 54)
          have hN_3 := hN_2.alloc (.cells (ints zer) 54)
          have hG6_3 := hG6_2.alloc (.cells (ints zer) 54)
          have hb_3 := below_alloc' hb_2 (.cells (ints zer) 54)
          have hG5_3 : Blk (W2.alloc (.cells (ints zer) 54)) W2.heap.size (ints zer) 54 := Blk.new _ _ _
          have o5 := hN_2.lt
          have o56 := hG6_2.lt
          refine hK.out _ _ hB_3 (fun hS => ?_)
          clear hK K hB_2 hR_2 hN_2 hG6_2 hb_2
          generalize W2.alloc (.cells (ints zer) 54) = W3 at *
          generalize W2.heap.size = g5 at *
          refine wpAnyH_ready (rs := [6]) (by kernel_rfl) (by simp) ?_
          refine (AllReadyH.cons rfl (fun K hK => ?_) AllReadyH.nil)
          · go_simp
            have hB_4 := hB_3.alloc (.cells (ints zer) 54)
            have hR_4 := hR_3.alloc (.cells (ints zer) 54)
            have hN_4 := hN_3.alloc (.cells (ints zer) 54)
            have hG6_4 := hG6_3.alloc (.cells (ints zer) 54)
            have hG5_4 := hG5_3.alloc (.cells (ints zer) 54)
            have hb_4 := below_alloc' hb_3 (.cells (ints zer) 54)
            have hG4_4 : Blk (W3.alloc (.cells (ints zer) 54)) W3.heap.size (ints zer) 54 := Blk.new _ _ _
            have o4 := hN_3.lt
            have o46 := hG6_3.lt
            have o45 := hG5_3.lt
            refine hK.out _ _ hB_4 (fun hS => ?_)
            clear hK K hB_3 hR_3 hN_3 hG6_3 hG5_3 hb_3
            generalize W3.alloc (.cells (ints zer) 54) = W4 at *
            generalize W3.heap.size = g4 at *
            refine hK_store 9 rfl (by kernel_rfl) rfl 54 _ _ rfl g4 0 (ints (clsS M L S (S + 1))) rfl rfl _ _ hG4_4 (by rw [Hcs.out, Hz16.out]; omega) (by rw [Hcs.out]; exact size_i16) (ints_one _) _ Hco.out (fun W5 hs => ⟨hs.keep (by omega) hB_4, fun hS => ?_⟩)
            (intro K hK; go_simp; refine hK _ ?_; clear hK K)
            have hB_5 := hs.keep (by omega) hB_4
            have hR_5 := hs.keep (by omega) hR_4
            have hN_5 := hs.keep (by omega) hN_4
            have hG4_5 := hs.blk
            have hG5_5 := hs.keep (by omega) hG5_4
            have hG6_5 := hs.keep (by omega) hG6_4
            have hb_5 := hs.below _ _ (by omega) hb_4
            clear hs hB_4 hR_4 hN_4 hG4_4 hG5_4 hG6_4 hb_4
            refine hK_store 10 rfl (by kernel_rfl) rfl 54 _ _ rfl g5 0 (ints zer) rfl rfl _ _ hG5_5 (by rw [Hz16.out]; omega) (by rw [Hz16.out]; exact size_i16) (ints_one _) _ Hzo.out (fun W6 hs => ⟨hs.keep (by omega) hB_5, fun hS => ?_⟩)
            (intro K hK; go_simp; refine hK _ ?_; clear hK K)
            have hB_6 := hs.keep (by omega) hB_5
            have hR_6 := hs.keep (by omega) hR_5
            have hN_6 := hs.keep (by omega) hN_5
            have hG4_6 := hs.keep (by omega) hG4_5
            have hG5_6 := hs.blk
            have hG6_6 := hs.keep (by omega) hG6_5
            have hb_6 := hs.below _ _ (by omega) hb_5
            clear hs hB_5 hR_5 hN_5 hG4_5 hG5_5 hG6_5 hb_5
            refine hK_store 11 rfl (by kernel_rfl) rfl 28 _ _ rfl g6 0 (mc (blankM (L : Int) 0)) rfl rfl _ _ hG6_6 (by rw [Hzs.out, Hbs.out]; omega) (by rw [Hbs.out]; exact size_mach) (mc_one _) _ Hbo.out (fun W7 hs => ⟨hs.keep (by omega) hB_6, fun hS => ?_⟩)
            (intro K hK; go_simp; refine hK _ ?_; clear hK K)
            have hB_7 := hs.keep (by omega) hB_6
            have hR_7 := hs.keep (by omega) hR_6
            have hN_7 := hs.keep (by omega) hN_6
            have hG4_7 := hs.keep (by omega) hG4_6
            have hG5_7 := hs.keep (by omega) hG5_6
            have hG6_7 := hs.blk
            have hb_7 := hs.below _ _ (by omega) hb_6
            clear hs hB_6 hR_6 hN_6 hG4_6 hG5_6 hG6_6 hb_6
            refine wpAnyH_done (by kernel_rfl) ?_ _
            exact ⟨g4, g5, g6, by omega, rfl, ⟨hB_7, hR_7, hN_7⟩, ⟨hG4_7, hG5_7, hG6_7⟩, hb_7⟩
      · go_simp
        have hB_2 := hB_1.alloc (.cells (ints zer) 54)
        have hR_2 := hR_1.alloc (.cells (ints zer) 54)
        have hN_2 := hN_1.alloc (.cells (ints zer) 54)
        have hG6_2 := hG6_1.alloc (.cells (ints zer) 54)
        have hb_2 := below_alloc' hb_1 (.cells (ints zer) 54)
        have hG4_2 : Blk (W1.alloc (.cells (ints zer) 54)) W1.heap.size (ints zer) 54 := Blk.new _ _ _
        have o4 := hN_1.lt
        have o46 := hG6_1.lt
        refine hK.out _ _ hB_2 (fun hS => ?_)
        clear hK K hB_1 hR_1 hN_1 hG6_1 hb_1
        generalize W1.alloc (.cells (ints zer) 54) = W2 at *
        generalize W1.heap.size = g4 at *
        refine wpAnyH_ready (rs := [1, 7]) (by kernel_rfl) (by simp) ?_
        refine (AllReadyH.cons rfl (fun K hK => ?_) (AllReadyH.cons rfl (fun K hK => ?_) AllReadyH.nil))
        · go_simp
          refine (l01Classes_calls M L S Hg.out _).mono ?_
          rintro e W3 ⟨rfl, hc⟩
          have hB_3 := hB_2.keptAll hc
          have hR_3 := hR_2.keptAll hc
          have hN_3 := hN_2.keptAll hc
          have hG6_3 := hG6_2.keptAll hc
          have hG4_3 := hG4_2.keptAll hc
          have hb_3 := below_step hb_2 hc
          clear hc hB_2 hR_2 hN_2 hG6_2 hG4_2 hb_2
          go_simp
          refine hK.out _ _ hB_3 (fun hS => ?_)
          clear hK K
          refine wpAnyH_ready (rs := [7]) (by kernel_rfl) (by simp) ?_
          refine (AllReadyH.cons rfl (fun K hK => ?_) AllReadyH.nil)
          · go_simp
            have hB_4 := hB_3.alloc (.cells (ints zer) 54)
            have hR_4 := hR_3.alloc (.cells (ints zer) 54)
            have hN_4 := hN_3.alloc (.cells (ints zer) 54)
            have hG6_4 := hG6_3.alloc (.cells (ints zer) 54)
            have hG4_4 := hG4_3.alloc (.cells (ints zer) 54)
            have hb_4 := below_alloc' hb_3 (.cells (ints zer) 54)
            have hG5_4 : Blk (W3.alloc (.cells (ints zer) 54)) W3.heap.size (ints zer) 54 := Blk.new _ _ _
            have o5 := hN_3.lt
            have o56 := hG6_3.lt
            have o54 := hG4_3.lt
            refine hK.out _ _ hB_4 (fun hS => ?_)
            clear hK K hB_3 hR_3 hN_3 hG6_3 hG4_3 hb_3
            generalize W3.alloc (.cells (ints zer) 54) = W4 at *
            generalize W3.heap.size = g5 at *
            refine hK_store 9 rfl (by kernel_rfl) rfl 54 _ _ rfl g4 0 (ints (clsS M L S (S + 1))) rfl rfl _ _ hG4_4 (by rw [Hcs.out, Hz16.out]; omega) (by rw [Hcs.out]; exact size_i16) (ints_one _) _ Hco.out (fun W5 hs => ⟨hs.keep (by omega) hB_4, fun hS => ?_⟩)
            (intro K hK; go_simp; refine hK _ ?_; clear hK K)
            have hB_5 := hs.keep (by omega) hB_4
            have hR_5 := hs.keep (by omega) hR_4
            have hN_5 := hs.keep (by omega) hN_4
            have hG4_5 := hs.blk
            have hG5_5 := hs.keep (by omega) hG5_4
            have hG6_5 := hs.keep (by omega) hG6_4
            have hb_5 := hs.below _ _ (by omega) hb_4
            clear hs hB_4 hR_4 hN_4 hG4_4 hG5_4 hG6_4 hb_4
            refine hK_store 10 rfl (by kernel_rfl) rfl 54 _ _ rfl g5 0 (ints zer) rfl rfl _ _ hG5_5 (by rw [Hz16.out]; omega) (by rw [Hz16.out]; exact size_i16) (ints_one _) _ Hzo.out (fun W6 hs => ⟨hs.keep (by omega) hB_5, fun hS => ?_⟩)
            (intro K hK; go_simp; refine hK _ ?_; clear hK K)
            have hB_6 := hs.keep (by omega) hB_5
            have hR_6 := hs.keep (by omega) hR_5
            have hN_6 := hs.keep (by omega) hN_5
            have hG4_6 := hs.keep (by omega) hG4_5
            have hG5_6 := hs.blk
            have hG6_6 := hs.keep (by omega) hG6_5
            have hb_6 := hs.below _ _ (by omega) hb_5
            clear hs hB_5 hR_5 hN_5 hG4_5 hG5_5 hG6_5 hb_5
            refine hK_store 11 rfl (by kernel_rfl) rfl 28 _ _ rfl g6 0 (mc (blankM (L : Int) 0)) rfl rfl _ _ hG6_6 (by rw [Hzs.out, Hbs.out]; omega) (by rw [Hbs.out]; exact size_mach) (mc_one _) _ Hbo.out (fun W7 hs => ⟨hs.keep (by omega) hB_6, fun hS => ?_⟩)
            (intro K hK; go_simp; refine hK _ ?_; clear hK K)
            have hB_7 := hs.keep (by omega) hB_6
            have hR_7 := hs.keep (by omega) hR_6
            have hN_7 := hs.keep (by omega) hN_6
            have hG4_7 := hs.keep (by omega) hG4_6
            have hG5_7 := hs.keep (by omega) hG5_6
            have hG6_7 := hs.blk
            have hb_7 := hs.below _ _ (by omega) hb_6
            clear hs hB_6 hR_6 hN_6 hG4_6 hG5_6 hG6_6 hb_6
            refine wpAnyH_done (by kernel_rfl) ?_ _
            exact ⟨g4, g5, g6, by omega, rfl, ⟨hB_7, hR_7, hN_7⟩, ⟨hG4_7, hG5_7, hG6_7⟩, hb_7⟩
        · go_simp
          have hB_3 := hB_2.alloc (.cells (ints zer) 54)
          have hR_3 := hR_2.alloc (.cells (ints zer) 54)
          have hN_3 := hN_2.alloc (.cells (ints zer) 54)
          have hG6_3 := hG6_2.alloc (.cells (ints zer) 54)
          have hG4_3 := hG4_2.alloc (.cells (ints zer) 54)
          have hb_3 := below_alloc' hb_2 (.cells (ints zer) 54)
          have hG5_3 : Blk (W2.alloc (.cells (ints zer) 54)) W2.heap.size (ints zer) 54 := Blk.new _ _ _
          have o5 := hN_2.lt
          have o56 := hG6_2.lt
          have o54 := hG4_2.lt
          refine hK.out _ _ hB_3 (fun hS => ?_)
          clear hK K hB_2 hR_2 hN_2 hG6_2 hG4_2 hb_2
          generalize W2.alloc (.cells (ints zer) 54) = W3 at *
          generalize W2.heap.size = g5 at *
          refine wpAnyH_ready (rs := [1]) (by kernel_rfl) (by simp) ?_
          refine (AllReadyH.cons rfl (fun K hK => ?_) AllReadyH.nil)
          · go_simp
            refine (l01Classes_calls M L S Hg.out _).mono ?_
            rintro e W4 ⟨rfl, hc⟩
            have hB_4 := hB_3.keptAll hc
            have hR_4 := hR_3.keptAll hc
            have hN_4 := hN_3.keptAll hc
            have hG6_4 := hG6_3.keptAll hc
            have hG4_4 := hG4_3.keptAll hc
            have hG5_4 := hG5_3.keptAll hc
            have hb_4 := below_step hb_3 hc
            clear hc hB_3 hR_3 hN_3 hG6_3 hG4_3 hG5_3 hb_3
            go_simp
            refine hK.out _ _ hB_4 (fun hS => ?_)
            clear hK K
            refine hK_store 9 rfl (by kernel_rfl) rfl 54 _ _ rfl g4 0 (ints (clsS M L S (S + 1))) rfl rfl _ _ hG4_4 (by rw [Hcs.out, Hz16.out]; omega) (by rw [Hcs.out]; exact size_i16) (ints_one _) _ Hco.out (fun W5 hs => ⟨hs.keep (by omega) hB_4, fun hS => ?_⟩)
            (intro K hK; go_simp; refine hK _ ?_; clear hK K)
            have hB_5 := hs.keep (by omega) hB_4
            have hR_5 := hs.keep (by omega) hR_4
            have hN_5 := hs.keep (by omega) hN_4
            have hG4_5 := hs.blk
            have hG5_5 := hs.keep (by omega) hG5_4
            have hG6_5 := hs.keep (by omega) hG6_4
            have hb_5 := hs.below _ _ (by omega) hb_4
            clear hs hB_4 hR_4 hN_4 hG4_4 hG5_4 hG6_4 hb_4
            refine hK_store 10 rfl (by kernel_rfl) rfl 54 _ _ rfl g5 0 (ints zer) rfl rfl _ _ hG5_5 (by rw [Hz16.out]; omega) (by rw [Hz16.out]; exact size_i16) (ints_one _) _ Hzo.out (fun W6 hs => ⟨hs.keep (by omega) hB_5, fun hS => ?_⟩)
            (intro K hK; go_simp; refine hK _ ?_; clear hK K)
            have hB_6 := hs.keep (by omega) hB_5
            have hR_6 := hs.keep (by omega) hR_5
            have hN_6 := hs.keep (by omega) hN_5
            have hG4_6 := hs.keep (by omega) hG4_5
            have hG5_6 := hs.blk
            have hG6_6 := hs.keep (by omega) hG6_5
            have hb_6 := hs.below _ _ (by omega) hb_5
            clear hs hB_5 hR_5 hN_5 hG4_5 hG5_5 hG6_5 hb_5
            refine hK_store 11 rfl (by kernel_rfl) rfl 28 _ _ rfl g6 0 (mc (blankM (L : Int) 0)) rfl rfl _ _ hG6_6 (by rw [Hzs.out, Hbs.out]; omega) (by rw [Hbs.out]; exact size_mach) (mc_one _) _ Hbo.out (fun W7 hs => ⟨hs.keep (by omega) hB_6, fun hS => ?_⟩)
            (intro K hK; go_simp; refine hK _ ?_; clear hK K)
            have hB_7 := hs.keep (by omega) hB_6
            have hR_7 := hs.keep (by omega) hR_6
            have hN_7 := hs.keep (by omega) hN_6
            have hG4_7 := hs.keep (by omega) hG4_6
            have hG5_7 := hs.keep (by omega) hG5_6
            have hG6_7 := hs.blk
            have hb_7 := hs.below _ _ (by omega) hb_6
            clear hs hB_6 hR_6 hN_6 hG4_6 hG5_6 hG6_6 hb_6
            refine wpAnyH_done (by kernel_rfl) ?_ _
            exact ⟨g4, g5, g6, by omega, rfl, ⟨hB_7, hR_7, hN_7⟩, ⟨hG4_7, hG5_7, hG6_7⟩, hb_7⟩
      · go_simp
        have hB_2 := hB_1.alloc (.cells (ints zer) 54)
        have hR_2 := hR_1.alloc (.cells (ints zer) 54)
        have hN_2 := hN_1.alloc (.cells (ints zer) 54)
        have hG6_2 := hG6_1.alloc (.cells (ints zer) 54)
        have hb_2 := below_alloc' hb_1 (.cells (ints zer) 54)
        have hG5_2 : Blk (W1.alloc (.cells (ints zer) 54)) W1.heap.size (ints zer) 54 := Blk.new _ _ _
        have o5 := hN_1.lt
        have o56 := hG6_1.lt
        refine hK.out _ _ hB_2 (fun hS => ?_)
        clear hK K hB_1 hR_1 hN_1 hG6_1 hb_1
        generalize W1.alloc (.cells (ints zer) 54) = W2 at *
        generalize W1.heap.size = g5 at *
        refine wpAnyH_ready (rs := [1, 6]) (by kernel_rfl) (by simp) ?_
        refine (AllReadyH.cons rfl (fun K hK => ?_) (AllReadyH.cons rfl (fun K hK => ?_) AllReadyH.nil))
        · go_simp
          refine (l01Classes_calls M L S Hg.out _).mono ?_
          rintro e W3 ⟨rfl, hc⟩
          have hB_3 := hB_2.keptAll hc
          have hR_3 := hR_2.keptAll hc
          have hN_3 := hN_2.keptAll hc
          have hG6_3 := hG6_2.keptAll hc
          have hG5_3 := hG5_2.keptAll hc
          have hb_3 := below_step hb_2 hc
          clear hc hB_2 hR_2 hN_2 hG6_2 hG5_2 hb_2
          go_simp
          refine hK.out _ _ hB_3 (fun hS => ?_)
          clear hK K
          refine wpAnyH_ready (rs := [6]) (by kernel_rfl) (by simp) ?_
          refine (AllReadyH.cons rfl (fun K hK => ?_) AllReadyH.nil)
          · go_simp
            have hB_4 := hB_3.alloc (.cells (ints zer) 54)
            have hR_4 := hR_3.alloc (.cells (ints zer) 54)
            have hN_4 := hN_3.alloc (.cells (ints zer) 54)
            have hG6_4 := hG6_3.alloc (.cells (ints zer) 54)
            have hG5_4 := hG5_3.alloc (.cells (ints zer) 54)
            have hb_4 := below_alloc' hb_3 (.cells (ints zer) 54)
            have hG4_4 : Blk (W3.alloc (.cells (ints zer) 54)) W3.heap.size (ints zer) 54 := Blk.new _ _ _
            have o4 := hN_3.lt
            have o46 := hG6_3.lt
            have o45 := hG5_3.lt
            refine hK.out _ _ hB_4 (fun hS => ?_)
            clear hK K hB_3 hR_3 hN_3 hG6_3 hG5_3 hb_3
            generalize W3.alloc (.cells (ints zer) 54) = W4 at *
            generalize W3.heap.size = g4 at *
            refine hK_store 9 rfl (by kernel_rfl) rfl 54 _ _ rfl g4 0 (ints (clsS M L S (S + 1))) rfl rfl _ _ hG4_4 (by rw [Hcs.out, Hz16.out]; omega) (by rw [Hcs.out]; exact size_i16) (ints_one _) _ Hco.out (fun W5 hs => ⟨hs.keep (by omega) hB_4, fun hS => ?_⟩)
            (intro K hK; go_simp; refine hK _ ?_; clear hK K)
            have hB_5 := hs.keep (by omega) hB_4
            have hR_5 := hs.keep (by omega) hR_4
            have hN_5 := hs.keep (by omega) hN_4
            have hG4_5 := hs.blk
            have hG5_5 := hs.keep (by omega) hG5_4
            have hG6_5 := hs.keep (by omega) hG6_4
            have hb_5 := hs.below _ _ (by omega) hb_4
            clear hs hB_4 hR_4 hN_4 hG4_4 hG5_4 hG6_4 hb_4
            refine hK_store 10 rfl (by kernel_rfl) rfl 54 _ _ rfl g5 0 (ints zer) rfl rfl _ _ hG5_5 (by rw [Hz16.out]; omega) (by rw [Hz16.out]; exact size_i16) (ints_one _) _ Hzo.out (fun W6 hs => ⟨hs.keep (by omega) hB_5, fun hS => ?_⟩)
            (intro K hK; go_simp; refine hK _ ?_; clear hK K)
            have hB_6 := hs.keep (by omega) hB_5
            have hR_6 := hs.keep (by omega) hR_5
            have hN_6 := hs.keep (by omega) hN_5
            have hG4_6 := hs.keep (by omega) hG4_5
            have hG5_6 := hs.blk
            have hG6_6 := hs.keep (by omega) hG6_5
            have hb_6 := hs.below _ _ (by omega) hb_5
            clear hs hB_5 hR_5 hN_5 hG4_5 hG5_5 hG6_5 hb_5
            refine hK_store 11 rfl (by kernel_rfl) rfl 28 _ _ rfl g6 0 (mc (blankM (L : Int) 0)) rfl rfl _ _ hG6_6 (by rw [Hzs.out, Hbs.out]; omega) (by rw [Hbs.out]; exact size_mach) (mc_one _) _ Hbo.out (fun W7 hs => ⟨hs.keep (by omega) hB_6, fun hS => ?_⟩)
            (intro K hK; go_simp; refine hK _ ?_; clear hK K)
            have hB_7 := hs.keep (by omega) hB_6
            have hR_7 := hs.keep (by omega) hR_6
            have hN_7 := hs.keep (by omega) hN_6
            have hG4_7 := hs.keep (by omega) hG4_6
            have hG5_7 := hs.keep (by omega) hG5_6
            have hG6_7 := hs.blk
            have hb_7 := hs.below _ _ (by omega) hb_6
            clear hs hB_6 hR_6 hN_6 hG4_6 hG5_6 hG6_6 hb_6
            refine wpAnyH_done (by kernel_rfl) ?_ _
            exact ⟨g4, g5, g6, by omega, rfl, ⟨hB_7, hR_7, hN_7⟩, ⟨hG4_7, hG5_7, hG6_7⟩, hb_7⟩
        · go_simp
          have hB_3 := hB_2.alloc (.cells (ints zer) 54)
          have hR_3 := hR_2.alloc (.cells (ints zer) 54)
          have hN_3 := hN_2.alloc (.cells (ints zer) 54)
          have hG6_3 := hG6_2.alloc (.cells (ints zer) 54)
          have hG5_3 := hG5_2.alloc (.cells (ints zer) 54)
          have hb_3 := below_alloc' hb_2 (.cells (ints zer) 54)
          have hG4_3 : Blk (W2.alloc (.cells (ints zer) 54)) W2.heap.size (ints zer) 54 := Blk.new _ _ _
          have o4 := hN_2.lt
          have o46 := hG6_2.lt
          have o45 := hG5_2.lt
          refine hK.out _ _ hB_3 (fun hS => ?_)
          clear hK K hB_2 hR_2 hN_2 hG6_2 hG5_2 hb_2
          generalize W2.alloc (.cells (ints zer) 54) = W3 at *
          generalize W2.heap.size = g4 at *
          refine wpAnyH_ready (rs := [1]) (by kernel_rfl) (by simp) ?_
          refine (AllReadyH.cons rfl (fun K hK => ?_) AllReadyH.nil)
          · go_simp
            refine (l01Classes_calls M L S Hg.out _).mono ?_
            rintro e W4 ⟨rfl, hc⟩
            have hB_4 := hB_3.keptAll hc
            have hR_4 := hR_3.keptAll hc
            have hN_4 := hN_3.keptAll hc
            have hG6_4 := hG6_3.keptAll hc
            have hG5_4 := hG5_3.keptAll hc
            have hG4_4 := hG4_3.keptAll hc
            have hb_4 := below_step hb_3 hc
            clear hc hB_3 hR_3 hN_3 hG6_3 hG5_3 hG4_3 hb_3
            go_simp
            refine hK.out _ _ hB_4 (fun hS => ?_)
            clear hK K
            refine hK_store 9 rfl (by kernel_rfl) rfl 54 _ _ rfl g4 0 (ints (clsS M L S (S + 1))) rfl rfl _ _ hG4_4 (by rw [Hcs.out, Hz16.out]; omega) (by rw [Hcs.out]; exact size_i16) (ints_one _) _ Hco.out (fun W5 hs => ⟨hs.keep (by omega) hB_4, fun hS => ?_⟩)
            (intro K hK; go_simp; refine hK _ ?_; clear hK K)
            have hB_5 := hs.keep (by omega) hB_4
            have hR_5 := hs.keep (by omega) hR_4
            have hN_5 := hs.keep (by omega) hN_4
            have hG4_5 := hs.blk
            have hG5_5 := hs.keep (by omega) hG5_4
            have hG6_5 := hs.keep (by omega) hG6_4
            have hb_5 := hs.below _ _ (by omega) hb_4
            clear hs hB_4 hR_4 hN_4 hG4_4 hG5_4 hG6_4 hb_4
            refine hK_store 10 rfl (by kernel_rfl) rfl 54 _ _ rfl g5 0 (ints zer) rfl rfl _ _ hG5_5 (by rw [Hz16.out]; omega) (by rw [Hz16.out]; exact size_i16) (ints_one _) _ Hzo.out (fun W6 hs => ⟨hs.keep (by omega) hB_5, fun hS => ?_⟩)
            (intro K hK; go_simp; refine hK _ ?_; clear hK K)
            have hB_6 := hs.keep (by omega) hB_5
            have hR_6 := hs.keep (by omega) hR_5
            have hN_6 := hs.keep (by omega) hN_5
            have hG4_6 := hs.keep (by omega) hG4_5
            have hG5_6 := hs.blk
            have hG6_6 := hs.keep (by omega) hG6_5
            have hb_6 := hs.below _ _ (by omega) hb_5
            clear hs hB_5 hR_5 hN_5 hG4_5 hG5_5 hG6_5 hb_5
            refine hK_store 11 rfl (by kernel_rfl) rfl 28 _ _ rfl g6 0 (mc (blankM (L : Int) 0)) rfl rfl _ _ hG6_6 (by rw [Hzs.out, Hbs.out]; omega) (by rw [Hbs.out]; exact size_mach) (mc_one _) _ Hbo.out (fun W7 hs => ⟨hs.keep (by omega) hB_6, fun hS => ?_⟩)
            (intro K hK; go_simp; refine hK _ ?_; clear hK K)
            have hB_7 := hs.keep (by omega) hB_6
            have hR_7 := hs.keep (by omega) hR_6
            have hN_7 := hs.keep (by omega) hN_6
            have hG4_7 := hs.keep (by omega) hG4_6
            have hG5_7 := hs.keep (by omega) hG5_6
            have hG6_7 := hs.blk
            have hb_7 := hs.below _ _ (by omega) hb_6
            clear hs hB_6 hR_6 hN_6 hG4_6 hG5_6 hG6_6 hb_6
            refine wpAnyH_done (by kernel_rfl) ?_ _
            exact ⟨g4, g5, g6, by omega, rfl, ⟨hB_7, hR_7, hN_7⟩, ⟨hG4_7, hG5_7, hG6_7⟩, hb_7⟩
  case rest =>
    clear hB1 hR1 hN1 hbw1 hz hzm
    intro e a W hT
    cases e with
    | normal =>
      obtain ⟨g4, g5, g6, hd, rfl, ⟨hB, hR, hN⟩, ⟨hC, hA, hO⟩, hbw⟩ := hT
      have cS := hB.cell
      go_wp2
      go_loopw [7] (fun i wr => ∃ q : Nat, q ≤ S ∧ i = .int .i64 q ∧ (Blk wr w.heap.size (mc M) 28 ∧ Blk wr (w.heap.size + 1) (mc zeroM) 28 ∧ Blk wr (w.heap.size + 1 + 1) (ints zer) 54) ∧ (Blk wr g4 (ints (clsS M L S (S + 1))) 54 ∧ Blk wr g5 (ints (numsZ M L S q)) 54 ∧ Blk wr g6 (mc (blankM (L : Int) (cntT M L S q))) 28) ∧ Below w.heap.size w wr) (fun i _ => S - (intOf i).toNat)
      case atStart => exact ⟨0, by omega, rfl, ⟨hB, hR, hN⟩, ⟨hC, hA, hO⟩, hbw⟩
      case round =>
        clear hB hR hN hC hA hO hbw cS
        obtain ⟨q, hq, rfl, ⟨hB, hR, hN⟩, ⟨hC, hA, hO⟩, hbw⟩ := hrel
        have cA := hB.cell
        by_cases hlt : q < S
        · have hq16 : q < 16 := by omega
          have hqi : (q : Int) < 16 := by omega
          have e1 := ints_at (clsS M L S (S + 1)) q (by rw [clsS_len]; omega)
          rw [clsS_at M L S (S + 1) q hlt hS16] at e1
          have eS := mc_S (blankM (L : Int) (cntT M L S q))
          rw [show (blankM (L : Int) (cntT M L S q : Int)).S = (cntT M L S q : Int) from rfl] at eS
          have hold := ints_at (numsZ M L S q) q (by rw [numsZ_len]; omega)
          generalize (numsZ M L S q).getD q 0 = oldn at hold
          have Hcl := Lib.hid (cntT_le M L S q)
          have Hll := Lib.hid (lst_at M L (S + 1) q).1
          have cC := hC.cell
          have cN := hA.cell
          have fN := hA.free
          have cO := hO.cell
          have fO := hO.free
          cases hr : repB M L (S + 1) q
          · have hne : lst M L (S + 1) q ≠ q := by simpa [repB] using hr
            have hlq : lst M L (S + 1) q < q := by have := Hll.out; omega
            have Hn := Lib.hid (notrep_num hr)
            have Hset := Lib.hid (numsZ_set M L S q (numT M L S q) rfl)
            have e2 := ints_at (numsZ M L S q) (lst M L (S + 1) q) (by rw [numsZ_len]; omega)
            rw [numsZ_at M L S q _ hlq (by omega), numT_lst] at e2
            have hA1 := hA.set q (.int .i64 (numT M L S q : Int))
            rw [← ints_set, Hset.out] at hA1
            have hB1 := hB.setOther g5 q (.int .i64 (numT M L S q : Int)) (by omega)
            have hR1 := hR.setOther g5 q (.int .i64 (numT M L S q : Int)) (by omega)
            have hN1 := hN.setOther g5 q (.int .i64 (numT M L S q : Int)) (by omega)
            have hC1 := hC.setOther g5 q (.int .i64 (numT M L S q : Int)) (by omega)
            have hO1 := hO.setOther g5 q (.int .i64 (numT M L S q : Int)) (by omega)
            rw [← Hn.out.2] at hO1
            have hbw1 := below_set' (o := q) hbw (b := g5) (by omega) (.int .i64 (numT M L S q : Int))
            have htest : ((lst M L (S + 1) q : Int) == (q : Int)) = false := by simp; omega
            have hli : (lst M L (S + 1) q : Int) < 16 := by omega
            clear hne
            generalize numT M L S q = nk at *
            generalize lst M L (S + 1) q = ll at *
            go_wp2
            go_roundw
            case rel => exact ⟨q + 1, by omega, by go_num, ⟨hB1, hR1, hN1⟩, ⟨hC1, hA1, hO1⟩, hbw1⟩
            case measure => simp [intOf] <;> omega
          · have heq : lst M L (S + 1) q = q := by simpa [repB] using hr
            have Hn := Lib.hid (rep_num hr)
            have Hset := Lib.hid (numsZ_set M L S q (cntT M L S q) (by rw [Hn.out.1]))
            rw [heq] at e1
            clear heq Hll
            have hA1 := hA.set q (.int .i64 (cntT M L S q : Int))
            rw [← ints_set, Hset.out] at hA1
            have hB1 := hB.setOther g5 q (.int .i64 (cntT M L S q : Int)) (by omega)
            have hR1 := hR.setOther g5 q (.int .i64 (cntT M L S q : Int)) (by omega)
            have hN1 := hN.setOther g5 q (.int .i64 (cntT M L S q : Int)) (by omega)
            have hC1 := hC.setOther g5 q (.int .i64 (cntT M L S q : Int)) (by omega)
            have hO1 := hO.setOther g5 q (.int .i64 (cntT M L S q : Int)) (by omega)
            have hbw1 := below_set' (o := q) hbw (b := g5) (by omega) (.int .i64 (cntT M L S q : Int))
            have cO1 := hO1.cell
            have fO1 := hO1.free
            have hO2 := hO1.set 1 (.int .i64 ((cntT M L S q : Int) + 1))
            rw [blank_S, show (cntT M L S q : Int) + 1 = (cntT M L S (q + 1) : Int) by rw [Hn.out.2]; omega] at hO2
            have hB2 := hB1.setOther g6 1 (.int .i64 (cntT M L S (q + 1) : Int)) (by omega)
            have hR2 := hR1.setOther g6 1 (.int .i64 (cntT M L S (q + 1) : Int)) (by omega)
            have hN2 := hN1.setOther g6 1 (.int .i64 (cntT M L S (q + 1) : Int)) (by omega)
            have hC2 := hC1.setOther g6 1 (.int .i64 (cntT M L S (q + 1) : Int)) (by omega)
            have hA2 := hA1.setOther g6 1 (.int .i64 (cntT M L S (q + 1) : Int)) (by omega)
            have hbw2 := below_set' (o := 1) hbw1 (b := g6) (by omega) (.int .i64 (cntT M L S (q + 1) : Int))
            have Hc1 : Hid ((cntT M L S (q + 1) : Int) = (cntT M L S q : Int) + 1) := Lib.hid (by rw [Hn.out.2]; omega)
            have Hz : Hid (mc (blankM (L : Int) (cntT M L S (q + 1))) = mc (blankM (L : Int) (cntT M L S (q + 1)))) := Lib.hid rfl
            clear Hn Hset hB1 hR1 hN1 hC1 hO1 hbw1
            have hck := Hcl.out
            have Hrel : Hid (∀ W : World, (∃ u : Int, u = (cntT M L S q : Int) + 1 ∧ Blk W g6 (mc (blankM (L : Int) u)) 28) → Blk W g6 (mc (blankM (L : Int) (cntT M L S (q + 1)))) 28) := Lib.hid (by rintro W ⟨u, hu, h⟩; rw [hu, ← Hc1.out] at h; exact h)
            rw [Hc1.out] at hB2 hR2 hN2 hC2 hA2 hO2 hbw2
            clear Hc1 Hz
            generalize cntT M L S q = ck at *
            go_wp2
            go_roundw
            case rel => exact ⟨q + 1, by omega, by go_num, ⟨hB2, hR2, hN2⟩, ⟨hC2, hA2, Hrel.out _ ⟨_, rfl, hO2⟩⟩, hbw2⟩
            case measure => simp [intOf] <;> omega
        · have hSq : S = q := by omega
          subst hSq
          go_wp2
          clear cA
          go_loopw [8] (fun i wr => ∃ q : Nat, q ≤ S ∧ i = .int .i64 q ∧ (Blk wr w.heap.size (mc M) 28 ∧ Blk wr (w.heap.size + 1) (mc zeroM) 28 ∧ Blk wr (w.heap.size + 1 + 1) (ints zer) 54) ∧ (Blk wr g5 (ints (numsZ M L S S)) 54 ∧ Blk wr g6 (mc (spAll M L S q)) 28) ∧ Below w.heap.size w wr) (fun i _ => S - (intOf i).toNat)
          case atStart => exact ⟨0, by omega, rfl, ⟨hB, hR, hN⟩, ⟨hA, hO⟩, hbw⟩
          case round =>
            clear hB hR hN hC hA hO hbw
            obtain ⟨q, hq, rfl, ⟨hB, hR, hN⟩, ⟨hA, hO⟩, hbw⟩ := hrel
            have cA := hB.cell
            by_cases hlt : q < S
            · have hq16 : q < 16 := by omega
              have hqi : (q : Int) < 16 := by omega
              have Hup := Lib.hid (spAll_up Hg.out q hq).1.ok
              go_wp2
              go_loopw [9] (fun i wr => ∃ k : Nat, k ≤ L ∧ i = .int .i64 k ∧ (Blk wr w.heap.size (mc M) 28 ∧ Blk wr (w.heap.size + 1) (mc zeroM) 28 ∧ Blk wr (w.heap.size + 1 + 1) (ints zer) 54) ∧ (Blk wr g5 (ints (numsZ M L S S)) 54 ∧ Blk wr g6 (mc (spRow M L S q (spAll M L S q) k)) 28) ∧ Below w.heap.size w wr) (fun i _ => L - (intOf i).toNat)
              case atStart => exact ⟨0, by omega, rfl, ⟨hB, hR, hN⟩, ⟨hA, hO⟩, hbw⟩
              case round =>
                clear hB hR hN hA hO hbw cA
                obtain ⟨k, hk, rfl, ⟨hB, hR, hN⟩, ⟨hA, hO⟩, hbw⟩ := hrel
                have cA := hB.cell
                by_cases hlk : k < L
                · have hk3 : k < 3 := by omega
                  have hki : (k : Int) < 3 := by omega
                  have hn := mc_n hok q k hq16 hk3
                  have ho := mc_o hok q k hq16 hk3
                  rw [Hg.out.nn_eq q k hlt hlk] at hn
                  have hnl := Hg.out.nn_lt q k hlt hlk
                  have eq0 := ints_at (numsZ M L S S) q (by rw [numsZ_len]; omega)
                  rw [numsZ_at M L S S q hlt hS16] at eq0
                  have en := ints_at (numsZ M L S S) (nn M q k) (by rw [numsZ_len]; omega)
                  rw [numsZ_at M L S S _ hnl hS16] at en
                  have hnk : numT M L S q ≤ q := num_le M L (S + 1) q
                  have hnt : numT M L S (nn M q k) ≤ nn M q k := num_le M L (S + 1) _
                  have hRok := spRow_ok Hg.out Hup.out q hlt k
                  have Hst := spStep_mc (M := M) L S hRok q k (by omega)
                  rw [show nextT M L S q k = (numT M L S (nn M q k) : Int) by unfold nextT; rw [if_pos hlk]] at Hst
                  have Hstep : Hid (spRow M L S q (spAll M L S q) (k + 1) = spStep M L S q k (spRow M L S q (spAll M L S q) k)) := Lib.hid rfl
                  have HRs := Lib.hid (mc_size hRok)
                  replace Hst := Lib.hid Hst
                  have obd := Mach.o_bd hok q k
                  generalize M.o q k = ov at *
                  generalize numT M L S (nn M q k) = nt at *
                  generalize numT M L S q = nk at *
                  generalize nn M q k = ni at *
                  generalize spRow M L S q (spAll M L S q) k = R at *
                  have hnk16 : (nk : Int) < 16 := by omega
                  have hnt16 : (nt : Int) < 16 := by omega
                  have hni16 : (ni : Int) < 16 := by omega
                  have ho1 : (mc R)[50 + nk * 3 + k]? = some ((mc R)[50 + nk * 3 + k]'(by rw [HRs.out]; omega)) := Array.getElem?_eq_getElem _
                  generalize (mc R)[50 + nk * 3 + k]'(by rw [HRs.out]; omega) = old1 at ho1
                  have hS2 : ((mc R).setIfInBounds (50 + nk * 3 + k) (.int .u8 ov))[2 + nk * 3 + k]? = some (((mc R).setIfInBounds (50 + nk * 3 + k) (.int .u8 ov))[2 + nk * 3 + k]'(by rw [Array.size_setIfInBounds, HRs.out]; omega)) := Array.getElem?_eq_getElem _
                  generalize ((mc R).setIfInBounds (50 + nk * 3 + k) (.int .u8 ov))[2 + nk * 3 + k]'(by rw [Array.size_setIfInBounds, HRs.out]; omega) = old2 at hS2
                  go_wp2_with fail
                  clear cA
                  have hB_p0 := hB.drew; have hR_p0 := hR.drew; have hN_p0 := hN.drew; have hA_p0 := hA.drew; have hO_p0 := hO.drew; have hb_p0 := below_drew' hbw
                  clear hB hR hN hA hO hbw
                  refine wp_region_still_tail 12 (by kernel_rfl) (by kernel_rfl) ?_
                  simp only [List.take_succ_cons, List.take_zero, List.drop_succ_cons, List.drop_zero]
                  change wpStill _ _ (World.drew _) (fun a' => wpList _ _ _ _ a' (World.drew _)) _ _
                  generalize (World.drew _) = wdp at *
                  have cA := hB_p0.cell; have cN := hA_p0.cell; have cC := hO_p0.cell; have fC := hO_p0.free
                  have hO1 := hO_p0.set (50 + nk * 3 + k) (.int .u8 ov)
                  have hB1 := hB_p0.setOther g6 (50 + nk * 3 + k) (.int .u8 ov) (by omega)
                  have hR1 := hR_p0.setOther g6 (50 + nk * 3 + k) (.int .u8 ov) (by omega)
                  have hN1 := hN_p0.setOther g6 (50 + nk * 3 + k) (.int .u8 ov) (by omega)
                  have hA1 := hA_p0.setOther g6 (50 + nk * 3 + k) (.int .u8 ov) (by omega)
                  have hbw1 := below_set' (o := 50 + nk * 3 + k) hb_p0 (b := g6) (by omega) (.int .u8 ov)
                  repeat still_step
                  refine wpStill_nil ?_
                  go_wp2
                  clear cA cN cC fC hB_p0 hR_p0 hN_p0 hA_p0 hO_p0 hb_p0
                  have hB_n0 := hB1.drew; have hR_n0 := hR1.drew; have hN_n0 := hN1.drew; have hA_n0 := hA1.drew; have hO_n0 := hO1.drew; have hb_n0 := below_drew' hbw1
                  clear hB1 hR1 hN1 hA1 hO1 hbw1
                  refine wp_region_still_tail 15 (by kernel_rfl) (by kernel_rfl) ?_
                  simp only [List.take_succ_cons, List.take_zero, List.drop_succ_cons, List.drop_zero]
                  change wpStill _ _ (World.drew _) (fun a' => wpList _ _ _ _ a' (World.drew _)) _ _
                  generalize (World.drew _) = wdn at *
                  have cA := hB_n0.cell; have cN := hA_n0.cell; have cC := hO_n0.cell; have fC := hO_n0.free
                  have hO2 := hO_n0.set (2 + nk * 3 + k) (.int .u8 (nt : Int))
                  have hB2 := hB_n0.setOther g6 (2 + nk * 3 + k) (.int .u8 (nt : Int)) (by omega)
                  have hR2 := hR_n0.setOther g6 (2 + nk * 3 + k) (.int .u8 (nt : Int)) (by omega)
                  have hN2 := hN_n0.setOther g6 (2 + nk * 3 + k) (.int .u8 (nt : Int)) (by omega)
                  have hA2 := hA_n0.setOther g6 (2 + nk * 3 + k) (.int .u8 (nt : Int)) (by omega)
                  have hbw2 := below_set' (o := 2 + nk * 3 + k) hb_n0 (b := g6) (by omega) (.int .u8 (nt : Int))
                  rw [← Hst.out] at hO2
                  repeat still_step
                  refine wpStill_nil ?_
                  go_wp2
                  go_roundw
                  case rel => exact ⟨k + 1, by omega, by go_num, ⟨hB2, hR2, hN2⟩, ⟨hA2, by rw [Hstep.out]; exact hO2⟩, hbw2⟩
                  case measure => simp [intOf] <;> omega
                · obtain rfl : k = L := by omega
                  go_wp2
                  go_roundw
                  case rel => exact ⟨q + 1, by omega, by go_num, ⟨hB, hR, hN⟩, ⟨hA, hO⟩, hbw⟩
                  case measure => simp [intOf] <;> omega
            · have hSq : S = q := by omega
              subst hSq
              rw [spAll_mn Hg.out] at hO
              have hmok := (mnAll_up Hg.out S (Nat.le_refl S)).1.ok
              have Hms := Lib.hid (mc_size hmok)
              have Hmc : Hid (cut (mc (mnAll M L S S)) 0 98 = mc (mnAll M L S S)) := Lib.hid (cut_all _ _ Hms.out)
              have Hmo : Hid (over (mc zeroM) 0 (mc (mnAll M L S S)) = mc (mnAll M L S S)) := Lib.hid (over_all _ _ (by rw [Hms.out, Hzs.out]))
              have Hns : Hid ((ints (numsZ M L S S)).size = 16) := Lib.hid (by rw [ints_size, numsZ_len])
              have Hnc : Hid (cut (ints (numsZ M L S S)) 0 16 = ints (numsZ M L S S)) := Lib.hid (cut_all _ _ Hns.out)
              have Hno : Hid (over (ints zer) 0 (ints (numsZ M L S S)) = ints (numsZ M L S S)) := Lib.hid (over_all _ _ (by rw [Hns.out, Hz16.out]))
              clear hmok
              go_wp2
              have hB1 := hB.drew; have hR1 := hR.drew; have hN1 := hN.drew; have hA1 := hA.drew; have hO1 := hO.drew; have hbw1 := below_drew' hbw
              clear hB hR hN hA hO hbw cA
              refine wp_region_held_drew (S := fun W => Blk W g6 (mc (mnAll M L S S)) 28 ∧ Blk W g5 (ints (numsZ M L S S)) 54) (by kernel_rfl) ⟨hO1, hA1⟩ (fun hS0 => ?_)
              (refine hK_load 0 rfl (by kernel_rfl) (by kernel_rfl) (by kernel_rfl) 28 _ rfl g6 0 rfl (mc (mnAll M L S S)) _ (fun W hW => hW.1) 98 (by rw [Hms.out]; omega) _ Try.underlying28 rfl size_mach _ Hmc.out (fun _ _ _ h => h) rfl hS0 ?_; (intro K hK; go_simp; refine hK _ ?_; clear hK K))
              (refine hK_load 1 rfl (by kernel_rfl) (by kernel_rfl) (by kernel_rfl) 54 _ rfl g5 0 rfl (ints (numsZ M L S S)) _ (fun W hW => hW.2) 16 (by rw [Hns.out]; omega) _ Try.underlying54 rfl size_i16 _ Hnc.out (fun _ _ _ h => h) rfl hS0 ?_; (intro K hK; go_simp; refine hK _ ?_; clear hK K))
              refine hK_store 2 rfl (by kernel_rfl) rfl 28 _ _ rfl (w.heap.size + 1) 0 (mc (mnAll M L S S)) rfl rfl _ _ hR1 (by rw [Hms.out, Hzs.out]; omega) (by rw [Hms.out]; exact size_mach) (mc_one _) _ Hmo.out (fun w5 hs => ⟨⟨hs.keep (by omega) hO1, hs.keep (by omega) hA1⟩, fun hS => ?_⟩)
              (intro K hK; go_simp; refine hK _ ?_; clear hK K)
              have hR2 := hs.blk; have hN2 := hs.keep (by omega) hN1; have hA2 := hs.keep (by omega) hA1; have hO2 := hs.keep (by omega) hO1; have hbw2 := hs.below _ _ (by omega) hbw1
              clear hs hB1 hR1 hN1 hA1 hO1 hbw1 hS0
              refine hK_store 3 rfl (by kernel_rfl) rfl 54 _ _ rfl (w.heap.size + 1 + 1) 0 (ints (numsZ M L S S)) rfl rfl _ _ hN2 (by rw [Hns.out, Hz16.out]; omega) (by rw [Hns.out]; exact size_i16) (ints_one _) _ Hno.out (fun w6 hs => ⟨⟨hs.keep (by omega) hO2, hs.keep (by omega) hA2⟩, fun hS => ?_⟩)
              (intro K hK; go_simp; refine hK _ ?_; clear hK K)
              have hR3 := hs.keep (by omega) hR2; have hN3 := hs.blk; have hbw3 := hs.below _ _ (by omega) hbw2
              clear hs hR2 hN2 hA2 hO2 hbw2
              refine wpAnyH_done (by kernel_rfl) ?_ _
              go_wp2
              exact bodyPost_cells rfl rfl rfl hR3 hN3 Try.underlying28 rfl Try.underlying54 rfl (by rw [Hms.out]; exact size_mach) (by rw [Hns.out]; exact size_i16) rfl ⟨rfl, hbw3⟩
    | _ => exact hT.elim
end Go.Proofs.Ytdbdoohcpcjfdaa
