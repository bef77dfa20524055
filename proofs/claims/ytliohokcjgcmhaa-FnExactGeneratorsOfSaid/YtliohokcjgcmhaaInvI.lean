/- Both inverse machines. · Both 'InverseMachine's. · 'InverseMachine' of the program. · The inverse of a machine is a machine. -/
import Derived.Test.YtliohokcjgcmhaaInvM
import Derived.Test.YtliohokcjgcmhaaMach
import Derived.Test.YtliohokcjgcmhaaMachC
import Derived.StillTailTactics
import Derived.Test.YtliohokcjgcmhaaMachD
import Derived.Test.YtliohokcjgcmhaaLedM
namespace Go.Proofs.Ytliohokcjgcmhaa
open Go.RowKit

set_option maxRecDepth 100000 in
set_option maxHeartbeats 1000000 in
theorem l01Inverse_calls (M : Mach) (L S : Nat) (hg : Good M L S) (w : World) :
    Calls Try.prog 90 #[.agg (mc M)] w fun e w' => e = .returned (.agg (mc (invM M L S))) ∧ Below w.heap.size w w' := by
  have hok := hg.ok
  have hL3 := hg.L3
  have hS16 := hg.S16
  have hcL := mc_L M
  have hcS := mc_S M
  rw [hg.hL] at hcL
  rw [hg.hS] at hcS
  have Hg := Lib.hid hg
  have hz := zero_mach
  have hzs : (mc zeroM).size = 98 := mc_size zeroM_ok
  obtain ⟨Z0, hZ0⟩ : ∃ Z0 : Mach, Z0 = blankM M.L M.S := ⟨_, rfl⟩
  have hset : ((mc zeroM).setIfInBounds 0 (.int .i64 L)).setIfInBounds 1 (.int .i64 S) = mc Z0 := by rw [zero_set, hZ0, ← hg.hL, ← hg.hS]; rfl
  have hZok : Z0.Ok := by rw [hZ0]; exact blankM_ok hok
  have HZ := Lib.hid hZ0; clear hZ0
  have hB1 : Blk (((w.alloc (.cells (mc M) 27)).alloc (.cells (mc zeroM) 27)).alloc (.cells (mc zeroM) 27)) w.heap.size (mc M) 27 := ((Blk.new w _ _).alloc _).alloc _
  have hB2 : Blk (((w.alloc (.cells (mc M) 27)).alloc (.cells (mc zeroM) 27)).alloc (.cells (mc zeroM) 27)) (w.heap.size + 1) (mc zeroM) 27 := (Blk.new_at _ _ _ _ (by simp)).alloc _
  have hB3 : Blk (((w.alloc (.cells (mc M) 27)).alloc (.cells (mc zeroM) 27)).alloc (.cells (mc zeroM) 27)) (w.heap.size + 1 + 1) (mc zeroM) 27 := Blk.new_at _ _ _ _ (by simp)
  have hbel0 : Below w.heap.size w (((w.alloc (.cells (mc M) 27)).alloc (.cells (mc zeroM) 27)).alloc (.cells (mc zeroM) 27)) := by (repeat (first | exact Below.refl _ _ | refine below_drew' ?_ | refine below_drewN' ?_ _ | refine below_alloc' ?_ _ | refine below_set' ?_ (by (try simp); (try omega)) _ | refine below_step ?_ (by assumption)))
  have F1 : Hid (0 + (mc Z0).size ≤ (mc zeroM).size) := Lib.hid (by rw [hzs, mc_size hZok]; omega)
  have F2 : Hid ((Try.prog.info? 27).map (·.size) = some (mc Z0).size) := Lib.hid (by rw [mc_size hZok]; exact size_mach)
  have F3 : Hid ((mc Z0).all (·.oneCell') = true) := Lib.hid (mc_one _)
  have F4 : Hid (over (mc zeroM) 0 (mc Z0) = mc Z0) := Lib.hid (over_all _ _ (by rw [hzs, mc_size hZok]))
  clear hg
  go_enter Try.func90, Try.ntmps90
  go_wp2_with (with_reducible show wpList _ _ _ _ _ _; refine wpList_store_blk rfl 27 (.tmp 3) (.tmp 11) rfl (w.heap.size + 1 + 1) 0 (mc Z0) rfl rfl (mc zeroM) 27 hB3 F1.out F2.out F3.out ?_; intro w1 hb3 hkeep hsz hbl; have hb1 := hkeep _ _ _ (by omega) hB1; have hb2 := hkeep _ _ _ (by omega) hB2; have hbw := hbl _ _ (by omega) hbel0; have cA := hb1.cell; rw [F4.out] at hb3; clear hkeep hbl hB1 hB2 hB3 hbel0 hsz)
  clear F1 F2 F3 F4 hz hzs hset
  go_loopw [4] (fun i wr => ∃ q : Nat, q ≤ S ∧ i = .int .i64 q ∧ Blk wr w.heap.size (mc M) 27 ∧ Blk wr (w.heap.size + 1) (mc zeroM) 27 ∧ Blk wr (w.heap.size + 1 + 1) (mc (invAll M L Z0 q)) 27 ∧ Below w.heap.size w wr) (fun i _ => S - (intOf i).toNat)
  case atStart => exact ⟨0, by omega, rfl, hb1, hb2, hb3, hbw⟩
  case round =>
    clear hb1 hb2 hb3 hbw cA
    obtain ⟨q, hq, rfl, hb1, hb2, hb3, hbw⟩ := hrel
    have cA := hb1.cell
    by_cases hlt : q < S
    · have hq16 : q < 16 := by omega
      have hqi : (q : Int) < 16 := by omega
      have hAok := invAll_ok hok hZok L hL3 q
      go_wp2
      go_loopw [5] (fun i wr => ∃ k : Nat, k ≤ L ∧ i = .int .i64 k ∧ Blk wr w.heap.size (mc M) 27 ∧ Blk wr (w.heap.size + 1) (mc zeroM) 27 ∧ Blk wr (w.heap.size + 1 + 1) (mc (invRow M q (invAll M L Z0 q) k)) 27 ∧ Below w.heap.size w wr) (fun i _ => L - (intOf i).toNat)
      case atStart => exact ⟨0, by omega, rfl, hb1, hb2, hb3, hbw⟩
      case round =>
        clear hb1 hb2 hb3 hbw cA
        obtain ⟨k, hk, rfl, hb1, hb2, hb3, hbw⟩ := hrel
        have cA := hb1.cell
        by_cases hlk : k < L
        · have hk3 : k < 3 := by omega
          have hki : (k : Int) < 3 := by omega
          have hn := mc_n hok q k hq16 hk3
          have ho := mc_o hok q k hq16 hk3
          obtain ⟨y, hy⟩ : ∃ y : Nat, M.o q k = y := by
            obtain ⟨o0, _⟩ := Hg.out.o_lt q k hlt hlk
            exact Int.eq_ofNat_of_zero_le o0
          have hyL : y < L := by have := (Hg.out.o_lt q k hlt hlk).2; omega
          have hy3 : (y : Int) < 3 := by omega
          have hRok := invRow_ok hok hAok q k (by omega)
          have Hst := Lib.hid (invStep_at hRok q k y hy (by omega))
          have Hstep : Hid (invRow M q (invAll M L Z0 q) (k + 1) = invStep M q k (invRow M q (invAll M L Z0 q) k)) := Lib.hid rfl
          have HRs := Lib.hid (mc_size hRok)
          rw [hy] at ho
          generalize M.n q k = nv at *
          generalize invRow M q (invAll M L Z0 q) k = R at *
          have ho1 : (mc R)[50 + q * 3 + y]? = some ((mc R)[50 + q * 3 + y]'(by rw [HRs.out]; omega)) := Array.getElem?_eq_getElem _
          generalize (mc R)[50 + q * 3 + y]'(by rw [HRs.out]; omega) = old1 at ho1
          have hS2 : ((mc R).setIfInBounds (50 + q * 3 + y) (.int .u8 (k : Int)))[2 + q * 3 + y]? = some (((mc R).setIfInBounds (50 + q * 3 + y) (.int .u8 (k : Int)))[2 + q * 3 + y]'(by rw [Array.size_setIfInBounds, HRs.out]; omega)) := Array.getElem?_eq_getElem _
          generalize ((mc R).setIfInBounds (50 + q * 3 + y) (.int .u8 (k : Int)))[2 + q * 3 + y]'(by rw [Array.size_setIfInBounds, HRs.out]; omega) = old2 at hS2
          have cC := hb3.cell
          have fC := hb3.free
          have hb3' := hb3.set (50 + q * 3 + y) (.int .u8 (k : Int))
          have hb1' := hb1.setOther (w.heap.size + 1 + 1) (50 + q * 3 + y) (.int .u8 (k : Int)) (by omega)
          have hb2' := hb2.setOther (w.heap.size + 1 + 1) (50 + q * 3 + y) (.int .u8 (k : Int)) (by omega)
          have hbw1 := below_set' (o := 50 + q * 3 + y) hbw (b := w.heap.size + 1 + 1) (by omega) (.int .u8 (k : Int))
          go_wp2
          have hx1 := hb1'.drew; have hx2 := hb2'.drew; have hx3 := hb3'.drew; have hxw := below_drew' hbw1
          clear cC fC cA hb1' hb2' hb3' hbw1 hb1 hb2 hb3 hbw
          refine wp_region_still_tail 11 (by kernel_rfl) (by kernel_rfl) ?_
          simp only [List.take_succ_cons, List.take_zero, List.drop_succ_cons, List.drop_zero]
          change wpStill _ _ (World.drew _) (fun a' => wpList _ _ _ _ a' (World.drew _)) _ _
          generalize (World.drew _) = wd at *
          have cA1 := hx1.cell
          have cC1 := hx3.cell
          have fC1 := hx3.free
          have hb31 := hx3.set (2 + q * 3 + y) (.int .u8 nv)
          have hb11 := hx1.setOther (w.heap.size + 1 + 1) (2 + q * 3 + y) (.int .u8 nv) (by omega)
          have hb21 := hx2.setOther (w.heap.size + 1 + 1) (2 + q * 3 + y) (.int .u8 nv) (by omega)
          have hbw2 := below_set' (o := 2 + q * 3 + y) hxw (b := w.heap.size + 1 + 1) (by omega) (.int .u8 nv)
          rw [← Hst.out] at hb31
          repeat still_step
          refine wpStill_nil ?_
          go_wp2
          go_roundw
          case rel => exact ⟨k + 1, by omega, by go_num, hb11, hb21, by rw [Hstep.out]; exact hb31, hbw2⟩
          case measure => simp [intOf] <;> omega
        · obtain rfl : k = L := by omega
          go_wp2
          go_roundw
          case rel => exact ⟨q + 1, by omega, by go_num, hb1, hb2, hb3, hbw⟩
          case measure => simp [intOf] <;> omega
    · obtain rfl : q = S := by omega
      have hAok := invAll_ok hok hZok L hL3 q
      have HAs := Lib.hid (mc_size hAok)
      have F1 : Hid (cut (mc (invAll M L Z0 q)) 0 98 = mc (invAll M L Z0 q)) := Lib.hid (cut_all _ _ HAs.out)
      have F2 : Hid (over (mc zeroM) 0 (mc (invAll M L Z0 q)) = mc (invAll M L Z0 q)) := Lib.hid (over_all _ _ (by rw [HAs.out, mc_size zeroM_ok]))
      have Hres : Hid (invAll M L Z0 q = invM M L q) := Lib.hid (by rw [HZ.out]; rfl)
      go_wp2_with (first | (with_reducible show wpList _ _ _ _ _ _; refine wpList_load_blk rfl 27 (.tmp 3) rfl (w.heap.size + 1 + 1) 0 rfl _ _ hb3 98 (by rw [HAs.out]; omega) _ Try.underlying27 rfl size_mach ?_; rw [F1.out]) | (with_reducible show wpList _ _ _ _ _ _; refine wpList_store_blk rfl 27 (.tmp 2) (.tmp 48) rfl (w.heap.size + 1) 0 (mc (invAll M L Z0 q)) rfl rfl (mc zeroM) _ hb2 (by rw [HAs.out, mc_size zeroM_ok]; omega) (by rw [HAs.out]; exact size_mach) (mc_one _) ?_; intro w4 hb4 hkeep _ hbl; rw [F2.out] at hb4; have hbw4 := hbl _ _ (by omega) hbw; clear hkeep hbl))
      exact bodyPost_cell rfl rfl hb4 Try.underlying27 rfl (by rw [HAs.out]; exact size_mach) rfl ⟨by rw [← Hres.out], hbw4⟩
end Go.Proofs.Ytliohokcjgcmhaa

namespace Go.Proofs.Ytliohokcjgcmhaa
open Go.RowKit

theorem ret_ai {c : Array Value} {m m' : Int} (h : m = m') : Ending.returned (.tuple #[.agg c, .int .i64 m]) = Ending.returned (.tuple #[.agg c, .int .i64 m']) := by rw [h]
theorem zero_over : over (mc zeroM) 0 (mc zeroM) = mc zeroM := over_all _ _ rfl

end Go.Proofs.Ytliohokcjgcmhaa

namespace Go.Proofs.Ytliohokcjgcmhaa
open Go.RowKit

end Go.Proofs.Ytliohokcjgcmhaa

namespace Go.Proofs.Ytliohokcjgcmhaa
open Go.RowKit

/-! ### The inverse is a machine -/
theorem invAll_out {M : Mach} {L S : Nat} (hg : Good M L S) (c : Mach) (hc : c.Ok) (hz : ∀ q x, q < 16 → x < 3 → c.o q x = 0 ∧ c.n q x = 0) : ∀ k, k ≤ S → ∀ q x, q < 16 → x < 3 → ¬ (q < k ∧ x < L) → (invAll M L c k).o q x = 0 ∧ (invAll M L c k).n q x = 0
  | 0, _, q, x, h1, h2, _ => hz q x h1 h2
  | k + 1, hk, q, x, h1, h2, hn => by
    have hok := invAll_ok hg.ok hc L hg.L3 k
    obtain ⟨r1, r2⟩ := invRow_at hg _ hok k (by omega) L (Nat.le_refl _) q x h1 h2
    rw [show invAll M L c (k + 1) = invRow M k (invAll M L c k) L from rfl, r1, r2]
    rw [if_neg (fun h => hn ⟨by omega, h.2.1⟩), if_neg (fun h => hn ⟨by omega, h.2.1⟩)]
    exact invAll_out hg c hc hz k (by omega) q x h1 h2 (fun h => hn ⟨by omega, h.2⟩)
theorem blank_zero (a b : Int) (q x : Nat) : (blankM a b).o q x = 0 ∧ (blankM a b).n q x = 0 := by
  have h : ∀ i, (List.replicate 48 (0 : Int)).getD i 0 = 0 := fun i => by
    simp only [List.getD, List.getElem?_replicate]
    split <;> rfl
  exact ⟨h _, h _⟩
theorem Good.inv {M : Mach} {L S : Nat} (hg : Good M L S) : Good (invM M L S) L S := by
  have hL := invAll_L M L (blankM M.L M.S) S
  refine ⟨invM_ok hg.ok L S hg.L3, hL.1.trans hg.hL, hL.2.trans hg.hS, hg.L2, hg.L3, hg.S1, hg.S16, ?_⟩
  unfold machUpTo rowAll
  rw [List.all_eq_true]
  intro q hq
  rw [List.all_eq_true]
  intro x hx
  have hq16 : q < 16 := by simpa using hq
  have hx3 : x < 3 := by simpa using hx
  unfold cellAll
  by_cases h : q < S ∧ x < L
  · rw [if_pos h]
    obtain ⟨e1, e2⟩ := hg.inv_at q x h.1 h.2
    obtain ⟨b1, b2, b3⟩ := hg.bk_at q x h.1 h.2
    have n0 := hg.n_lt q (bk M q x) h.1 b1
    unfold cellOk
    rw [e1, e2, Bool.and_eq_true, Bool.and_eq_true, decide_eq_true_eq, decide_eq_true_eq, Bool.not_eq_true']
    refine ⟨n0.2, by omega, ?_⟩
    unfold seenB
    rw [List.any_eq_false]
    intro y hy
    have hyx : y < x := by simpa using hy
    have e3 := (hg.inv_at q y h.1 (by omega)).1
    have c2 := (hg.bk_at q y h.1 (by omega)).2.1
    simp only [e3, decide_eq_true_eq]
    intro e
    have e4 : bk M q y = bk M q x := Int.ofNat.inj e
    rw [e4, b2] at c2
    omega
  · rw [if_neg h]
    obtain ⟨e1, e2⟩ := invAll_out hg _ (blankM_ok hg.ok) (fun q x _ _ => blank_zero _ _ q x) S (Nat.le_refl _) q x hq16 hx3 h
    exact decide_eq_true ⟨e2, e1⟩

end Go.Proofs.Ytliohokcjgcmhaa
