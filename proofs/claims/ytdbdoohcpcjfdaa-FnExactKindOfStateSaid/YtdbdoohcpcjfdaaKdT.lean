/- The model's 'l09Reduced'. -/
import Derived.Test.YtdbdoohcpcjfdaaKdS
import Derived.Test.YtdbdoohcpcjfdaaMinL
import Derived.Test.YtdbdoohcpcjfdaaStoreK
namespace Go.Proofs.Ytdbdoohcpcjfdaa
open Go.RowKit

theorem bodyPost_csc {P : Program} {fn : Func} {R : Ending → World → Prop} {a : Act} {w : World} {p s u : Tmp} {v : Value} {ty ty' T T' : TypeId} (hf : fn.results = #[.cell p ty, .tmp s, .cell u ty']) {g g' : Nat} {cs cs' : Array Value} {d d' : TypeDesc} (hp : a.tmps.getD p undef = .pointer (some ⟨g, 0, none⟩)) (hs : a.tmps.getD s undef = v) (hp2 : a.tmps.getD u undef = .pointer (some ⟨g', 0, none⟩)) (hB : Blk w g cs T) (hB' : Blk w g' cs' T')
    (hu : P.underlying ty = some d) (hd : d.isRow = true) (hu' : P.underlying ty' = some d') (hd' : d'.isRow = true) (hi : (P.info? ty).map (·.size) = some cs.size) (hi' : (P.info? ty').map (·.size) = some cs'.size) (hdef : a.defers = []) (hR : R (.returned (.tuple #[.agg cs, v, .agg cs'])) w) : bodyPost P fn R .ret a w := by
  refine bodyPost_ret (v := .tuple #[.agg cs, v, .agg cs']) ?_ hdef hR
  have hl := loadVar_blk (P := P) hB hu hd hi
  have hl' := loadVar_blk (P := P) hB' hu' hd' hi'
  have hp' : a.tmps[p]?.getD undef = .pointer (some ⟨g, 0, none⟩) := by simpa using hp
  have hs' : a.tmps[s]?.getD undef = v := by simpa using hs
  have hp2' : a.tmps[u]?.getD undef = .pointer (some ⟨g', 0, none⟩) := by simpa using hp2
  simp [results, hf, hp', hs', hp2', asAddr, hl, hl']

set_option maxRecDepth 100000 in
set_option maxHeartbeats 4000000 in
theorem l09Reduced_calls (M : Mach) (L S : Nat) (hg : Good M L S) (q : Nat) (hq : q < S) (w : World) :
    Calls Try.prog 68 #[.agg (mc M), .int .i64 (q : Int)] w fun e w' => (∃ l, e = .returned (.tuple #[.agg (mc (mnAll M L S S)), .int .i64 ((numT M L S q : Nat) : Int), .agg (bl l)]) ∧ l.length = 16 ∧ ∀ p, p < cntT M L S S → l.getD p false = trivB (mnAll M L S S) L (cntT M L S S) p) ∧ Below w.heap.size w w' := by
  have hok := hg.ok
  have hS16 := hg.S16
  have hzm := zero_mach
  have hzb := zero_b16
  have hzi := zero_i16
  have hq16 : (q : Int) < 16 := by omega
  have hsg := sm_good hg
  have Hms := Lib.hid (mc_size hsg.ok)
  have Hzs : Hid ((mc zeroM).size = 98) := Lib.hid (mc_size zeroM_ok)
  have Hzb : Hid ((bl nob).size = 16) := Lib.hid (by rw [bl_size]; rfl)
  have Hzi : Hid ((ints zer).size = 16) := Lib.hid (by rw [ints_size]; rfl)
  have Hns : Hid ((ints (numsZ M L S S)).size = 16) := Lib.hid (by rw [ints_size, numsZ_len])
  have Hmc : Hid (cut (mc (mnAll M L S S)) 0 98 = mc (mnAll M L S S)) := Lib.hid (cut_all _ _ Hms.out)
  have Hmo : Hid (over (mc zeroM) 0 (mc (mnAll M L S S)) = mc (mnAll M L S S)) := Lib.hid (over_all _ _ (by rw [Hms.out, Hzs.out]))
  have Hno : Hid (over (ints zer) 0 (ints (numsZ M L S S)) = ints (numsZ M L S S)) := Lib.hid (over_all _ _ (by rw [Hns.out, Hzi.out]))
  have HMn := Lib.hid (fun W => l01Minimal_calls M L S hg W)
  have HTr := Lib.hid (fun W => l01Trivial_calls (mnAll M L S S) L (cntT M L S S) hsg W)
  have e1 := ints_at (numsZ M L S S) q (by rw [numsZ_len]; omega)
  rw [numsZ_at M L S S q hq hS16] at e1
  have He1 := Lib.hid e1
  clear hg hsg e1
  generalize mnAll M L S S = sm at *
  generalize numsZ M L S S = ns at *
  generalize numT M L S q = nq0 at *
  generalize cntT M L S S = K at *
  let W0 := ((w.alloc (.cells (mc M) 28)).alloc (.cells (mc zeroM) 28)).alloc (.cells (bl nob) 46)
  have hM1 : Blk W0 w.heap.size (mc M) 28 := ((Blk.new w _ _).alloc _).alloc _
  have hR1 : Blk W0 (w.heap.size + 1) (mc zeroM) 28 := (Blk.new_at _ _ _ _ (by simp)).alloc _
  have hV1 : Blk W0 (w.heap.size + 1 + 1) (bl nob) 46 := Blk.new_at _ _ _ _ (by simp)
  have hbw1 : Below w.heap.size w W0 := by show Below _ _ (World.alloc _ _); (repeat (first | exact Below.refl _ _ | refine below_drew' ?_ | refine below_drewN' ?_ _ | refine below_alloc' ?_ _ | refine below_set' ?_ (by (try simp); (try omega)) _ | refine below_step ?_ (by assumption)))
  have hWs : W0.heap.size = w.heap.size + 3 := by show (World.alloc _ _).heap.size = _; simp
  have F1 : Hid (cut (mc M) 0 98 = mc M) := Lib.hid (cut_all _ _ (mc_size hok)); have F2 : Hid (0 + 98 ≤ (mc M).size) := Lib.hid (by rw [mc_size hok]; omega)
  go_enter Try.func68, Try.ntmps68
  go_wp2_with (first | (with_reducible show wpList _ _ _ _ _ _; refine wpList_load_blk rfl 28 (.tmp 2) rfl w.heap.size 0 rfl (mc M) _ (hM1) 98 F2.out _ Try.underlying28 rfl size_mach ?_; rw [F1.out]) | (go_at_call 82; refine (HMn.out _).mono ?_; rintro e w2 ⟨rfl, hb2⟩; have hR2 := ((hR1.keptAll hb2).alloc (.cells (mc zeroM) 28)).alloc (.cells (ints zer) 54); have hV2 := ((hV1.keptAll hb2).alloc (.cells (mc zeroM) 28)).alloc (.cells (ints zer) 54); have hX2 : Blk ((w2.alloc (.cells (mc zeroM) 28)).alloc (.cells (ints zer) 54)) w2.heap.size (mc zeroM) 28 := (Blk.new _ _ _).alloc _; have hY2 : Blk ((w2.alloc (.cells (mc zeroM) 28)).alloc (.cells (ints zer) 54)) (w2.heap.size + 1) (ints zer) 54 := Blk.new_at _ _ _ _ (by simp); have hs2 := hb2.size; rw [hWs] at hs2; have hbw2 := below_alloc' (below_alloc' (below_step hbw1 hb2) (.cells (mc zeroM) 28)) (.cells (ints zer) 54)) | (with_reducible show wpList _ _ _ _ _ _; refine wpList_store_row rfl 28 _ _ rfl w2.heap.size 0 (mc sm) rfl rfl _ _ hX2 (by rw [Hms.out, Hzs.out]; omega) (by rw [Hms.out]; exact size_mach) (mc_one _) _ Hmo.out ?_; intro w3 hs3; have hR3 := hs3.keep (by omega) hR2; have hV3 := hs3.keep (by omega) hV2; have hX3 := hs3.blk; have hY3 := hs3.keep (by omega) hY2; have hbw3 := hs3.below _ _ (by omega) hbw2) | (with_reducible show wpList _ _ _ _ _ _; refine wpList_store_row rfl 54 _ _ rfl (w2.heap.size + 1) 0 (ints ns) rfl rfl _ _ hY3 (by rw [Hns.out, Hzi.out]; omega) (by rw [Hns.out]; exact size_i16) (ints_one _) _ Hno.out ?_; intro w4 hs4; have hR4 := (hs4.keep (by omega) hR3).drew; have hV4 := (hs4.keep (by omega) hV3).drew; have hX4 := (hs4.keep (by omega) hX3).drew; have hY4 := hs4.blk.drew; have hbw4 := below_drew' (hs4.below _ _ (by omega) hbw3)))
  clear hR1 hV1 hM1 hbw1 hR2 hV2 hX2 hY2 hbw2 hR3 hV3 hX3 hY3 hbw3 hs3 hs4 hb2 hzm hzb hzi
  refine wp_region_held_drew (S := fun W => Blk W w2.heap.size (mc sm) 28 ∧ Blk W (w2.heap.size + 1) (ints ns) 54) (by kernel_rfl) ⟨hX4, hY4⟩ (fun hS0 => ?_)
  (refine hK_load 0 rfl (by kernel_rfl) (by kernel_rfl) (by kernel_rfl) 28 _ rfl w2.heap.size 0 rfl (mc sm) _ (fun W hW => hW.1) 98 (by rw [Hms.out]; omega) _ Try.underlying28 rfl size_mach _ Hmc.out (fun _ _ _ h => h) rfl hS0 ?_; (intro K hK; go_simp; refine hK _ ?_; clear hK K))
  (refine hK_take 1 (.int .i64 (q : Int)) rfl (by kernel_rfl) (by kernel_rfl) (by kernel_rfl) (fun _ _ _ h => h) rfl (fun W _ => by go_simp) hS0 ?_; (intro K hK; go_simp; refine hK _ ?_; clear hK K))
  (refine hK_take 2 (.pointer (some ⟨w2.heap.size + 1, q, none⟩)) rfl (by kernel_rfl) (by kernel_rfl) (by kernel_rfl) (fun _ _ _ h => h) rfl (fun W _ => by go_simp) hS0 ?_; (intro K hK; go_simp; refine hK _ ?_; clear hK K))
  (refine hK_take 3 (.int .i64 (nq0 : Int)) rfl (by kernel_rfl) (by kernel_rfl) (by kernel_rfl) (fun _ _ _ h => h) rfl (fun W hW => by have c1 := Blk.cell hW.2 q; rw [He1.out] at c1; clear hW; go_simp) hS0 ?_; (intro K hK; go_simp; refine hK _ ?_; clear hK K))
  (refine hK_load 4 rfl (by kernel_rfl) (by kernel_rfl) (by kernel_rfl) 28 _ rfl w2.heap.size 0 rfl (mc sm) _ (fun W hW => hW.1) 98 (by rw [Hms.out]; omega) _ Try.underlying28 rfl size_mach _ Hmc.out (fun _ _ _ h => h) rfl hS0 ?_; (intro K hK; go_simp; refine hK _ ?_; clear hK K))
  (refine wpAnyH_ready (rs := [5]) (by kernel_rfl) (by simp) ?_; refine AllReadyH.cons rfl (fun K hK => ?_) AllReadyH.nil); go_simp; refine (HTr.out _).mono ?_; rintro e w5 ⟨⟨l, rfl, hll, hl⟩, hb5⟩; have hS5 : Blk w5 w2.heap.size (mc sm) 28 ∧ Blk w5 (w2.heap.size + 1) (ints ns) 54 := ⟨hS0.1.keptAll hb5, hS0.2.keptAll hb5⟩; have hR5 := hR4.keptAll hb5; have hV5 := hV4.keptAll hb5; have hbw5 := below_step hbw4 hb5
  (go_simp; refine hK.out _ _ (hS5) (fun hS1 => ?_); clear hK K)
  have Hls : Hid ((bl l).size = 16) := Lib.hid (by rw [bl_size, hll])
  have Hlo : Hid (over (bl nob) 0 (bl l) = bl l) := Lib.hid (over_all _ _ (by rw [Hls.out, Hzb.out]))
  refine hK_store 6 rfl (by kernel_rfl) rfl 28 _ _ rfl (w.heap.size + 1) 0 (mc sm) rfl rfl _ _ hR5 (by rw [Hms.out, Hzs.out]; omega) (by rw [Hms.out]; exact size_mach) (mc_one _) _ Hmo.out ?_
  intro w6 hs6
  refine ⟨⟨hs6.keep (by omega) hS1.1, hs6.keep (by omega) hS1.2⟩, fun hS6 => ?_⟩
  (intro K hK; go_simp; refine hK _ ?_; clear hK K)
  have hR6 := hs6.blk
  have hV6 := hs6.keep (by omega) hV5
  have hbw6 := hs6.below _ _ (by omega) hbw5
  clear hs6 hR5 hV5 hbw5 hS1
  (refine hK_take 7 (.int .i64 (nq0 : Int)) rfl (by kernel_rfl) (by kernel_rfl) (by kernel_rfl) (fun _ _ _ h => h) rfl (fun W _ => by go_simp) hS6 ?_; (intro K hK; go_simp; refine hK _ ?_; clear hK K))
  refine hK_store 8 rfl (by kernel_rfl) rfl 46 _ _ rfl (w.heap.size + 1 + 1) 0 (bl l) rfl rfl _ _ hV6 (by rw [Hls.out, Hzb.out]; omega) (by rw [Hls.out]; exact size_b16) (bl_one _) _ Hlo.out ?_
  intro w8 hs8
  refine ⟨⟨hs8.keep (by omega) hS6.1, hs8.keep (by omega) hS6.2⟩, fun hS8 => ?_⟩
  (intro K hK; go_simp; refine hK _ ?_; clear hK K)
  have hR8 := hs8.keep (by omega) hR6
  have hV8 := hs8.blk
  have hbw8 := hs8.below _ _ (by omega) hbw6
  clear hs8 hR6 hV6 hbw6 hS6
  refine wpAnyH_done (by kernel_rfl) ?_ _
  go_wp2
  exact bodyPost_csc rfl rfl rfl rfl hR8 hV8 Try.underlying28 rfl Try.underlying46 rfl (by rw [Hms.out]; exact size_mach) (by rw [Hls.out]; exact size_b16) rfl ⟨⟨l, rfl, hll, hl⟩, hbw8⟩
end Go.Proofs.Ytdbdoohcpcjfdaa
