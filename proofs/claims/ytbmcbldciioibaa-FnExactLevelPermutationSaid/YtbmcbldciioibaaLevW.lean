/- The statement on 'LevelPermutation', walked: equal, of its own memory, and again. -/
import Derived.Test.YtbmcbldciioibaaLevL
import Derived.Test.YtbmcbldciioibaaConv
namespace Go.Proofs.Ytbmcbldciioibaa
open Go.RowKit

theorem eqInt64S_same (a b : Value) (ba bb : Nat) (zs : List Int) (w : World) (ha : OwnI w ba a zs) (hb : OwnI w bb b zs) :
    Calls Try.prog 54 #[a, b] w fun e w' => e = .returned (.bool true) ∧ Below w.heap.size w w' :=
  (eqInt64S_calls a b ba bb zs zs w ha hb).mono fun e w' h => ⟨by rw [h.1]; simp, h.2⟩
theorem markInt64S_m (a : Value) (base k0 m : Nat) (zs : List Int) (w : World) (ha : OwnI w base a zs) (hn : zs.length ≤ 1048576) (hk0 : k0 ≤ 1048576) (hm : k0 + zs.length = m) :
    Calls Try.prog 55 #[a, .int .i64 k0] w fun e w' => e = .returned (.int .i64 (m : Int)) ∧ OwnI w' base a (marksF k0 zs.length) ∧ Below base w w' ∧ w.heap.size ≤ w'.heap.size :=
  (markInt64S_calls a base k0 zs w ha hn hk0).mono fun e w' h => ⟨by rw [h.1, hm], h.2⟩
theorem heldInt64S_m (a : Value) (base k0 n m : Nat) (w : World) (ha : OwnI w base a (marksF k0 n)) (hn : n ≤ 1048576) (hk0 : k0 ≤ 1048576) (hm : k0 + n = m) :
    Calls Try.prog 56 #[a, .int .i64 k0] w fun e w' => e = .returned (.int .i64 (m : Int)) ∧ w = w' :=
  (heldInt64S_calls a base k0 n w ha hn hk0).mono fun e w' h => ⟨by rw [h.1, hm], h.2⟩
theorem permRes_len {M : Mach} (hok : M.Ok) (q n : Int) : (permRes M q n).length ≤ 243 := by
  unfold permRes
  split
  · rename_i h
    obtain ⟨L, S, hg⟩ := Good.of hok h.1
    rw [permL_len, hg.hL, Int.toNat_natCast]
    exact pow_le L _ hg.L3 (by omega)
  · simp

set_option maxRecDepth 100000 in
set_option maxHeartbeats 1000000 in
theorem lawLevelPermutation (M : Mach) (hok : M.Ok) (q : Int) (_ : (Lit.int .i64 q).wf = true) (n : Int) (_ : (Lit.int .i64 n).wf = true) (w : World) :
    Calls Try.prog 13 #[.agg (mc M), .int .i64 q, .int .i64 n] w fun e w' => e = .returned (.bool true) ∧ Below w.heap.size w w' := by
  have F1 : Hid (cut (mc M) 0 98 = mc M) := Lib.hid (cut_all _ _ (mc_size hok)); have F2 : Hid (0 + 98 ≤ (mc M).size) := Lib.hid (by rw [mc_size hok]; omega)
  have hB : Blk (w.alloc (.cells (mc M) 57)) w.heap.size (mc M) 57 := Blk.new w _ _
  have hlen := permRes_len hok q n
  have hbw : Below w.heap.size w (w.alloc (.cells (mc M) 57)) := by (repeat (first | exact Below.refl _ _ | refine below_drew' ?_ | refine below_drewN' ?_ _ | refine below_alloc' ?_ _ | refine below_set' ?_ (by (try simp); (try omega)) _ | refine below_step ?_ (by assumption)))
  obtain ⟨m, hm⟩ : ∃ m : Nat, 1 + (permRes M q n).length = m := ⟨_, rfl⟩
  have hm0 : ¬ ((m : Int) < 0) := by omega
  have Hm := Lib.hid hm; have Hlen := Lib.hid hlen; clear hm hlen
  go_enter Try.func13, Try.ntmps13
  go_wp2_with (first | (with_reducible show wpList _ _ _ _ _ _; refine wpList_load_blk rfl 57 _ rfl w.heap.size 0 rfl (mc M) _ (by first | exact hB2 | exact hB) 98 F2.out _ Try.underlying57 rfl size_lmach ?_; rw [F1.out]) | (go_at_call 47; refine (toMachine_calls M hok _).mono ?_; rintro e w1 ⟨rfl, hb1⟩) | (go_at_call 26; refine (sLevel_calls M hok q n _).mono ?_; rintro e w2 ⟨vs, rfl, hOs, hb2⟩; have hB2 := (hB.keptAll hb1).keptAll hb2; have hbw := below_step (below_step hbw hb1) hb2))
  have hOs1 := hOs.below hb1
  have hB3 := hB2.keptAll hb1
  have hbw3 := below_step hbw hb1
  have hvs := hOs1.lt
  have hlt3 := hB3.lt
  clear hOs hB hB2 hbw
  go_wp2_with (go_at_call 25; refine (iLevel_calls M hok q n _).mono ?_; rintro e w3 ⟨vi, rfl, hOi, hb3⟩)
  have hOs2 := hOs1.below hb3
  have hB4 := hB3.keptAll hb3
  have hbw4 := below_step hbw3 hb3
  clear hOs1 hB3 hbw3
  go_wp2_with (go_at_call 54; refine (eqInt64S_same vi vs _ _ _ _ hOi hOs2).mono ?_; rintro e w4 ⟨rfl, hb4⟩)
  have hOi1 := hOi.below hb4
  have hOs3 := hOs2.below hb4
  have hB5 := hB4.keptAll hb4
  have hbw5 := below_step hbw4 hb4
  clear hOi hOs2 hB4 hbw4
  go_wp2_with (go_at_call 55; refine (markInt64S_m vi _ 1 m _ _ hOi1 (by have := Hlen.out; omega) (by omega) Hm.out).mono ?_; rintro e w5 ⟨rfl, hOm, hb5, hs5⟩)
  have hOs4 := hOs3.under hvs hb5
  have hB6 := hB5.kept hb5 hlt3
  have hbw6 := hbw5.trans (below_le hb5 (by omega))
  clear hOs3 hB5 hbw5 hOi1
  go_wp2_with (first | (go_at_call 56; refine (heldInt64S_m vi _ 1 _ m _ hOm (by have := Hlen.out; omega) (by omega) Hm.out).mono ?_; rintro e w' ⟨rfl, rfl⟩) | (with_reducible show wpList _ _ _ _ _ _; refine wpList_load_blk rfl 57 _ rfl w.heap.size 0 rfl (mc M) _ (hB6) 98 F2.out _ Try.underlying57 rfl size_lmach ?_; rw [F1.out]) | (go_at_call 47; refine (toMachine_calls M hok _).mono ?_; rintro e w6 ⟨rfl, hb6⟩))
  have hOs5 := hOs4.below hb6
  have hOm1 := hOm.below hb6
  have hbw7 := below_step hbw6 hb6
  clear hOs4 hOm hbw6 hB6
  go_wp2_with (go_at_call 25; refine (iLevel_calls M hok q n _).mono ?_; rintro e w7 ⟨vj, rfl, hOj, hb7⟩)
  have hOs6 := hOs5.below hb7
  have hOm2 := hOm1.below hb7
  have hbw8 := below_step hbw7 hb7
  clear hOs5 hOm1 hbw7
  go_wp2_with (first | (go_at_call 54; refine (eqInt64S_same vj vs _ _ _ _ hOj hOs6).mono ?_; rintro e w8 ⟨rfl, hb8⟩; have hOm3 := hOm2.below hb8; have hbw9 := below_step hbw8 hb8) | (go_at_call 56; refine (heldInt64S_m vi _ 1 _ m _ hOm3 (by have := Hlen.out; omega) (by omega) Hm.out).mono ?_; rintro e w' ⟨rfl, rfl⟩))
  go_ret
  exact ⟨rfl, hbw9⟩
end Go.Proofs.Ytbmcbldciioibaa
