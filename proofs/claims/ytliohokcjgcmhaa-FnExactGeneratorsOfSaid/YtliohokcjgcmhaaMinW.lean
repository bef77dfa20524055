/- 'withClasses': the view of a machine by sets of states. -/
import Derived.Test.YtliohokcjgcmhaaMinK
import Derived.Test.YtliohokcjgcmhaaInvM
import Derived.Test.YtliohokcjgcmhaaMachC
import Derived.StillTailTactics
namespace Go.Proofs.Ytliohokcjgcmhaa
open Go.RowKit

/-- Sixteen bytes. -/
def c8 (c : List Int) : Array Value := (c.map (Value.int .u8)).toArray
theorem c8_size (c : List Int) : (c8 c).size = c.length := by simp [c8]
theorem c8_at (c : List Int) (i : Nat) (hi : i < c.length) : (c8 c)[i]? = some (.int .u8 (c.getD i 0)) := by
  simp [c8, List.getD, List.getElem?_eq_getElem hi]
theorem c8_set (c : List Int) (i : Nat) (v : Int) : c8 (c.set i v) = (c8 c).setIfInBounds i (.int .u8 v) := by
  apply Array.ext'; simp [c8]
theorem vStep_mc (M : Mach) (c : List Int) (q x : Nat) {V : Mach} (hV : V.Ok) (hb : q * 3 + x < 48) : mc (vStep M c q x V) = (mc V).setIfInBounds (2 + q * 3 + x) (.int .u8 (c.getD (nn M q x) 0)) := by
  rw [show 2 + q * 3 + x = 2 + (q * 3 + x) from by omega, ← mc_set_nx hV.nx48 _ hb]
  rfl

set_option maxRecDepth 100000 in
set_option maxHeartbeats 1000000 in
theorem withClasses_calls (M : Mach) (L S : Nat) (hg : Good M L S) (c : List Int) (hcl : c.length = 16) (hcb : isBytes c) (w : World) :
    Calls Try.prog 169 #[.agg (mc M), .agg (c8 c)] w fun e w' => e = .returned (.agg (mc (viewM M c L S))) ∧ Below w.heap.size w w' := by
  have hok := hg.ok
  have hL3 := hg.L3
  have hS16 := hg.S16
  have hcL := mc_L M
  have hcS := mc_S M
  rw [hg.hL] at hcL
  rw [hg.hS] at hcS
  have Hg := Lib.hid hg
  have hz := zero_mach
  have hzs : (mc zeroM).size = 98 := mc_size zeroM_ok
  have hms : (mc M).size = 98 := mc_size hok
  let W0 := (((w.alloc (.cells (mc M) 27)).alloc (.cells (c8 c) 194)).alloc (.cells (mc zeroM) 27)).alloc (.cells (mc zeroM) 27)
  have hB1 : Blk W0 w.heap.size (mc M) 27 := (((Blk.new w _ _).alloc _).alloc _).alloc _
  have hB1' : Blk (((w.alloc (.cells (mc M) 27)).alloc (.cells (c8 c) 194)).alloc (.cells (mc zeroM) 27)) w.heap.size (mc M) 27 := ((Blk.new w _ _).alloc _).alloc _
  have hC1 : Blk W0 (w.heap.size + 1) (c8 c) 194 := ((Blk.new_at _ _ _ _ (by simp)).alloc _).alloc _
  have hR1 : Blk W0 (w.heap.size + 1 + 1) (mc zeroM) 27 := (Blk.new_at _ _ _ _ (by simp)).alloc _
  have hV1 : Blk W0 (w.heap.size + 1 + 1 + 1) (mc zeroM) 27 := Blk.new_at _ _ _ _ (by simp)
  have hbel0 : Below w.heap.size w W0 := by show Below _ _ (World.alloc _ _); (repeat (first | exact Below.refl _ _ | refine below_drew' ?_ | refine below_drewN' ?_ _ | refine below_alloc' ?_ _ | refine below_set' ?_ (by (try simp); (try omega)) _ | refine below_step ?_ (by assumption)))
  have F1 : Hid (cut (mc M) 0 98 = mc M) := Lib.hid (cut_all _ _ hms)
  have F2 : Hid (0 + 98 ≤ (mc M).size) := Lib.hid (by omega)
  have G1 : Hid (0 + (mc M).size ≤ (mc zeroM).size) := Lib.hid (by omega)
  have G2 : Hid ((Try.prog.info? 27).map (·.size) = some (mc M).size) := Lib.hid (by rw [hms]; exact size_mach)
  have G3 : Hid ((mc M).all (·.oneCell') = true) := Lib.hid (mc_one _)
  have G4 : Hid (over (mc zeroM) 0 (mc M) = mc M) := Lib.hid (over_all _ _ (by rw [hzs, hms]))
  clear hg hms
  go_enter Try.func169, Try.ntmps169
  go_wp2_with (first | (with_reducible show wpList _ _ _ _ _ _; refine wpList_load_blk rfl 27 (.tmp 2) rfl w.heap.size 0 rfl (mc M) _ (hB1') 98 F2.out _ Try.underlying27 rfl size_mach ?_; rw [F1.out]) | (with_reducible show wpList _ _ _ _ _ _; refine wpList_store_blk rfl 27 (.tmp 5) (.tmp 8) rfl (w.heap.size + 1 + 1 + 1) 0 (mc M) rfl rfl (mc zeroM) 27 hV1 G1.out G2.out G3.out ?_; intro w1 hb4 hkeep hsz hbl; have hb1 := hkeep _ _ _ (by omega) hB1; have hb2 := hkeep _ _ _ (by omega) hC1; have hb3 := hkeep _ _ _ (by omega) hR1; have hbw := hbl _ _ (by omega) hbel0; have cA := hb1.cell; rw [G4.out] at hb4; clear hkeep hbl hsz))
  clear hB1 hB1' hC1 hR1 hV1 hbel0 G1 G2 G3 G4 hz hzs F1 F2
  go_loopw [11] (fun i wr => ∃ q : Nat, q ≤ S ∧ i = .int .i64 q ∧ Blk wr w.heap.size (mc M) 27 ∧ Blk wr (w.heap.size + 1) (c8 c) 194 ∧ Blk wr (w.heap.size + 1 + 1) (mc zeroM) 27 ∧ Blk wr (w.heap.size + 1 + 1 + 1) (mc (vAll M c L M q)) 27 ∧ Below w.heap.size w wr) (fun i _ => S - (intOf i).toNat)
  case atStart => exact ⟨0, by omega, rfl, hb1, hb2, hb3, hb4, hbw⟩
  case round =>
    clear hb1 hb2 hb3 hb4 hbw cA
    obtain ⟨q, hq, rfl, hb1, hb2, hb3, hb4, hbw⟩ := hrel
    have cA := hb1.cell
    by_cases hlt : q < S
    · have hq16 : q < 16 := by omega
      have hqi : (q : Int) < 16 := by omega
      have hAok := vAll_ok hcb L hok q (M := M)
      go_wp2
      go_loopw [16] (fun i wr => ∃ k : Nat, k ≤ L ∧ i = .int .i64 k ∧ Blk wr w.heap.size (mc M) 27 ∧ Blk wr (w.heap.size + 1) (c8 c) 194 ∧ Blk wr (w.heap.size + 1 + 1) (mc zeroM) 27 ∧ Blk wr (w.heap.size + 1 + 1 + 1) (mc (vRow M c q (vAll M c L M q) k)) 27 ∧ Below w.heap.size w wr) (fun i _ => L - (intOf i).toNat)
      case atStart => exact ⟨0, by omega, rfl, hb1, hb2, hb3, hb4, hbw⟩
      case round =>
        clear hb1 hb2 hb3 hb4 hbw cA
        obtain ⟨k, hk, rfl, hb1, hb2, hb3, hb4, hbw⟩ := hrel
        have cA := hb1.cell
        by_cases hlk : k < L
        · have hk3 : k < 3 := by omega
          have hki : (k : Int) < 3 := by omega
          have hn := mc_n hok q k hq16 hk3
          have hne := Hg.out.nn_eq q k hlt hlk
          have hnl := Hg.out.nn_lt q k hlt hlk
          rw [hne] at hn
          have hRok := vRow_ok hcb hAok q k (M := M)
          have Hst := Lib.hid (vStep_mc M c q k hRok (by omega))
          have Hstep : Hid (vRow M c q (vAll M c L M q) (k + 1) = vStep M c q k (vRow M c q (vAll M c L M q) k)) := Lib.hid rfl
          have HRs := Lib.hid (mc_size hRok)
          have hcc := c8_at c (nn M q k) (by omega)
          generalize vRow M c q (vAll M c L M q) k = R at *
          generalize nn M q k = ni at *
          have hni : (ni : Int) < 16 := by omega
          have ho1 : (mc R)[2 + q * 3 + k]? = some ((mc R)[2 + q * 3 + k]'(by rw [HRs.out]; omega)) := Array.getElem?_eq_getElem _
          generalize (mc R)[2 + q * 3 + k]'(by rw [HRs.out]; omega) = old1 at ho1
          generalize c.getD ni 0 = cv at *
          have hx1 := hb1.drew; have hx2 := hb2.drew; have hx3 := hb3.drew; have hx4 := hb4.drew; have hxw := below_drew' hbw
          go_wp2_with fail
          clear cA hb1 hb2 hb3 hb4 hbw HRs hne hnl
          refine wp_region_still_tail 13 (by kernel_rfl) (by kernel_rfl) ?_
          simp only [List.take_succ_cons, List.take_zero, List.drop_succ_cons, List.drop_zero]
          change wpStill _ _ (World.drew _) (fun a' => wpList _ _ _ _ a' (World.drew _)) _ _
          generalize (World.drew _) = wd at *
          have cA1 := hx1.cell
          have cB1 := hx2.cell
          have cC1 := hx4.cell
          have fC1 := hx4.free
          have hb41 := hx4.set (2 + q * 3 + k) (.int .u8 cv)
          have hb11 := hx1.setOther (w.heap.size + 1 + 1 + 1) (2 + q * 3 + k) (.int .u8 cv) (by omega)
          have hb21 := hx2.setOther (w.heap.size + 1 + 1 + 1) (2 + q * 3 + k) (.int .u8 cv) (by omega)
          have hb31 := hx3.setOther (w.heap.size + 1 + 1 + 1) (2 + q * 3 + k) (.int .u8 cv) (by omega)
          have hbw2 := below_set' (o := 2 + q * 3 + k) hxw (b := w.heap.size + 1 + 1 + 1) (by omega) (.int .u8 cv)
          rw [← Hst.out] at hb41
          repeat still_step
          refine wpStill_nil ?_
          go_wp2
          go_roundw
          case rel => exact ⟨k + 1, by omega, by go_num, hb11, hb21, hb31, by rw [Hstep.out]; exact hb41, hbw2⟩
          case measure => simp [intOf] <;> omega
        · obtain rfl : k = L := by omega
          go_wp2
          go_roundw
          case rel => exact ⟨q + 1, by omega, by go_num, hb1, hb2, hb3, hb4, hbw⟩
          case measure => simp [intOf] <;> omega
    · obtain rfl : q = S := by omega
      have hAok := vAll_ok hcb L hok q (M := M)
      have HAs := Lib.hid (mc_size hAok)
      have F1 : Hid (cut (mc (vAll M c L M q)) 0 98 = mc (vAll M c L M q)) := Lib.hid (cut_all _ _ HAs.out)
      have F2 : Hid (over (mc zeroM) 0 (mc (vAll M c L M q)) = mc (vAll M c L M q)) := Lib.hid (over_all _ _ (by rw [HAs.out, mc_size zeroM_ok]))
      go_wp2_with (first | (with_reducible show wpList _ _ _ _ _ _; refine wpList_load_blk rfl 27 (.tmp 5) rfl (w.heap.size + 1 + 1 + 1) 0 rfl _ _ hb4 98 (by rw [HAs.out]; omega) _ Try.underlying27 rfl size_mach ?_; rw [F1.out]) | (with_reducible show wpList _ _ _ _ _ _; refine wpList_store_blk rfl 27 (.tmp 4) (.tmp 34) rfl (w.heap.size + 1 + 1) 0 (mc (vAll M c L M q)) rfl rfl (mc zeroM) _ hb3 (by rw [HAs.out, mc_size zeroM_ok]; omega) (by rw [HAs.out]; exact size_mach) (mc_one _) ?_; intro w4 hb5 hkeep _ hbl; rw [F2.out] at hb5; have hbw4 := hbl _ _ (by omega) hbw; clear hkeep hbl))
      exact bodyPost_cell rfl rfl hb5 Try.underlying27 rfl (by rw [HAs.out]; exact size_mach) rfl ⟨rfl, hbw4⟩
end Go.Proofs.Ytliohokcjgcmhaa
