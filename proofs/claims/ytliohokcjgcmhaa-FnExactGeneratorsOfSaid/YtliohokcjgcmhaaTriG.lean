/- 'MinimalMachine': the program. · 'TrivialStates': the program. -/
import Derived.Test.YtliohokcjgcmhaaMinG
import Derived.Test.YtliohokcjgcmhaaMinC
import Derived.Test.YtliohokcjgcmhaaArgs
import Derived.Test.YtliohokcjgcmhaaMachD
namespace Go.Proofs.Ytliohokcjgcmhaa
open Go.RowKit

theorem classesOf_T (M : Mach) (L S : Nat) (hg : Good M L S) (w : World) :
    Calls Try.prog 168 #[.agg (mc M)] w fun e w' => e = .returned (.agg (c8 (clsU M L S (S + 1)))) ∧ Below w.heap.size w w' :=
  (classesOf_calls M L S hg w).mono fun e w' ⟨⟨t, ht, he⟩, hb⟩ => ⟨by rw [he, clsU_still hg ht (still_from hg (S + 1) (by omega))], hb⟩
theorem withClasses_T (M : Mach) (L S : Nat) (hg : Good M L S) (w : World) :
    Calls Try.prog 169 #[.agg (mc M), .agg (c8 (clsU M L S (S + 1)))] w fun e w' => e = .returned (.agg (mc (vw M L S (S + 1)))) ∧ Below w.heap.size w w' :=
  withClasses_calls M L S hg (clsU M L S (S + 1)) (clsU_len _ _ _ _) (clsU_bytes _ _ _ _) w
theorem vw_next {M : Mach} {L S : Nat} (hg : Good M L S) (q x : Nat) (hq : q < S) (hx : x < 3) : (vw M L S (S + 1)).n q x = nextT M L S q x := by
  have := hg.S16
  rw [vw_n hg (S + 1) q x (by omega) hx]
  unfold nextT numT
  by_cases h : x < L
  · rw [if_pos ⟨hq, h⟩, if_pos h]
  · rw [if_neg (fun a => h a.2), if_neg h]

theorem tri_one (a b c : Int) : (#[Value.int .u8 a, Value.int .u8 b, Value.int .u8 c]).all (·.oneCell') = true := by
  rw [Array.all_eq_true_iff_forall_mem]
  intro v hv
  simp at hv
  rcases hv with rfl | rfl | rfl <;> rfl
set_option maxRecDepth 100000 in
set_option maxHeartbeats 2000000 in
theorem iMinimal_good (M : Mach) (L S : Nat) (hg : Good M L S) (w : World) :
    Calls Try.prog 150 #[.agg (mc M)] w fun e w' => ∃ v, e = .returned (.tuple #[.agg (mc (mnAll M L S S)), v, .int .i64 0]) ∧ OwnI w' w.heap.size v (numsT M L S S) ∧ Below w.heap.size w w' := by
  have hok := hg.ok
  have hS16 := hg.S16
  have hm := hg.isMach
  have hcL := mc_L M
  have hcS := mc_S M
  rw [hg.hL] at hcL
  rw [hg.hS] at hcS
  have hz := zero_c16
  have hzm := zero_mach
  have hbl := blank_set (L : Int)
  have hmk := mk_ints S (by omega)
  have F1 : Hid (cut (mc M) 0 98 = mc M) := Lib.hid (cut_all _ _ (mc_size hok)); have F2 : Hid (0 + 98 ≤ (mc M).size) := Lib.hid (by rw [mc_size hok]; omega)
  have Hzs : Hid ((mc zeroM).size = 98) := Lib.hid (mc_size zeroM_ok)
  have Hz16 : Hid ((c8 zer).size = 16) := Lib.hid (by rw [c8_size]; rfl)
  have Hcs : Hid ((c8 (clsU M L S (S + 1))).size = 16) := Lib.hid (by rw [c8_size, clsU_len])
  have Hcc : Hid (cut (c8 (clsU M L S (S + 1))) 0 16 = c8 (clsU M L S (S + 1))) := Lib.hid (cut_all _ _ Hcs.out)
  have Hco : Hid (over (c8 zer) 0 (c8 (clsU M L S (S + 1))) = c8 (clsU M L S (S + 1))) := Lib.hid (over_all _ _ (by rw [Hz16.out, Hcs.out]))
  have hvo := vw_ok hg (S + 1)
  have Hvs := Lib.hid (mc_size hvo)
  have Hvo : Hid (over (mc zeroM) 0 (mc (vw M L S (S + 1))) = mc (vw M L S (S + 1))) := Lib.hid (over_all _ _ (by rw [Hzs.out, Hvs.out]))
  have hb0 := (mnAll_up hg 0 (by omega)).1.ok
  have Hbs : Hid ((mc (blankM (L : Int) 0)).size = 98) := Lib.hid (mc_size hb0)
  have Hbo : Hid (over (mc zeroM) 0 (mc (blankM (L : Int) 0)) = mc (blankM (L : Int) 0)) := Lib.hid (over_all _ _ (by rw [Hzs.out, Hbs.out]))
  have hB0 : Blk ((w.alloc (.cells (mc M) 27)).alloc (.cells (mc zeroM) 27)) w.heap.size (mc M) 27 := (Blk.new w _ _).alloc _
  have hR0 : Blk ((w.alloc (.cells (mc M) 27)).alloc (.cells (mc zeroM) 27)) (w.heap.size + 1) (mc zeroM) 27 := Blk.new_at _ _ _ _ (by simp)
  have hbw0 : Below w.heap.size w ((w.alloc (.cells (mc M) 27)).alloc (.cells (mc zeroM) 27)) := by (repeat (first | exact Below.refl _ _ | refine below_drew' ?_ | refine below_drewN' ?_ _ | refine below_alloc' ?_ _ | refine below_set' ?_ (by (try simp); (try omega)) _ | refine below_step ?_ (by assumption)))
  have Hg := Lib.hid hg
  have T1 := Lib.hid trivial; have T2 := Lib.hid trivial; have T3 := Lib.hid trivial
  clear hg
  go_enter Try.func150, Try.ntmps150
  go_wp2_with (first | (with_reducible show wpList _ _ _ _ _ _; refine wpList_load_blk rfl 27 (.tmp 1) rfl w.heap.size 0 rfl (mc M) _ (by first | exact hB3 | exact hB1 | exact hB0) 98 F2.out _ Try.underlying27 rfl size_mach ?_; rw [F1.out]) | (go_at_call 73; refine (IsMachine_calls M hok _).mono ?_; rintro e w1 ⟨rfl, hb1⟩; rw [hm]; have hB1 := hB0.keptAll hb1; have hR1 := hR0.keptAll hb1; have hbw1 := below_step hbw0 hb1) | (go_at_call 168; refine (classesOf_T M L S Hg.out _).mono ?_; rintro e w2 ⟨rfl, hb2⟩; have hB2 := (hB1.keptAll hb2).alloc (.cells (c8 zer) 194); have hR2 := (hR1.keptAll hb2).alloc (.cells (c8 zer) 194); have hbw2 := below_alloc' (below_step hbw1 hb2) (.cells (c8 zer) 194); have hC2 : Blk (w2.alloc (.cells (c8 zer) 194)) w2.heap.size (c8 zer) 194 := Blk.new _ _ _; have hlt2 := (hR1.keptAll hb2).lt) | (with_reducible show wpList _ _ _ _ _ _; clear T1; refine wpList_store_row rfl 194 (.tmp 5) (.tmp 16) rfl w2.heap.size 0 (c8 (clsU M L S (S + 1))) rfl rfl _ _ hC2 (by rw [Hz16.out, Hcs.out]; omega) (by rw [Hcs.out]; exact size_c16) (c8_one _) _ Hco.out ?_; intro w3 hs3; have hB3 := hs3.keep (by omega) hB2; have hR3 := hs3.keep (by omega) hR2; have hC3 := hs3.blk; have hbw3 := hs3.below _ _ (by omega) hbw2; have hlt3 := hC3.lt) | (with_reducible show wpList _ _ _ _ _ _; refine wpList_load_blk rfl 194 (.tmp 5) rfl w2.heap.size 0 rfl (c8 (clsU M L S (S + 1))) _ hC3 16 (by rw [Hcs.out]; omega) _ Try.underlying194 rfl size_c16 ?_; rw [Hcc.out]) | (go_at_call 169; refine (withClasses_T M L S Hg.out _).mono ?_; rintro e w4 ⟨rfl, hb4⟩; have hB4 := (hB3.keptAll hb4).alloc (.cells (mc zeroM) 27); have hR4 := (hR3.keptAll hb4).alloc (.cells (mc zeroM) 27); have hC4 := (hC3.keptAll hb4).alloc (.cells (mc zeroM) 27); have hbw4 := below_alloc' (below_step hbw3 hb4) (.cells (mc zeroM) 27); have hV4 : Blk (w4.alloc (.cells (mc zeroM) 27)) w4.heap.size (mc zeroM) 27 := Blk.new _ _ _; have hlt4 := (hC3.keptAll hb4).lt) | (with_reducible show wpList _ _ _ _ _ _; clear T2; refine wpList_store_row rfl 27 (.tmp 6) (.tmp 19) rfl w4.heap.size 0 (mc (vw M L S (S + 1))) rfl rfl _ _ hV4 (by rw [Hzs.out, Hvs.out]; omega) (by rw [Hvs.out]; exact size_mach) (mc_one _) _ Hvo.out ?_; intro w5 hs5; have hB5 := hs5.keep (by omega) hB4; have hR5 := hs5.keep (by omega) hR4; have hC5 := hs5.keep (by omega) hC4; have hV5 := hs5.blk; have hbw5 := hs5.below _ _ (by omega) hbw4; have hlt5 := hV5.lt; have cA5 := hB5.cell; have hB6 := hB5.alloc (.cells (mc zeroM) 27); have hR6 := hR5.alloc (.cells (mc zeroM) 27); have hC6 := hC5.alloc (.cells (mc zeroM) 27); have hV6 := hV5.alloc (.cells (mc zeroM) 27); have hbw6 := below_alloc' hbw5 (.cells (mc zeroM) 27); have hG6 : Blk (w5.alloc (.cells (mc zeroM) 27)) w5.heap.size (mc zeroM) 27 := Blk.new _ _ _) | (with_reducible show wpList _ _ _ _ _ _; clear T3; refine wpList_store_row rfl 27 (.tmp 7) (.tmp 22) rfl w5.heap.size 0 (mc (blankM (L : Int) 0)) rfl rfl _ _ hG6 (by rw [Hzs.out, Hbs.out]; omega) (by rw [Hbs.out]; exact size_mach) (mc_one _) _ Hbo.out ?_; intro w7 hs7; have hB7 := hs7.keep (by omega) hB6; have hR7 := hs7.keep (by omega) hR6; have hC7 := hs7.keep (by omega) hC6; have hV7 := hs7.keep (by omega) hV6; have hG7 := hs7.blk; have hbw7 := hs7.below _ _ (by omega) hbw6; have hlt7 := hG7.lt; have cA7 := hB7.cell; have hB8 := hB7.alloc (.cells (ints (List.replicate S 0)) 2); have cA8 := hB8.cell))
  have hR8 := hR7.alloc (.cells (ints (List.replicate S 0)) 2)
  have hC8 := hC7.alloc (.cells (ints (List.replicate S 0)) 2)
  have hV8 := hV7.alloc (.cells (ints (List.replicate S 0)) 2)
  have hG8 := hG7.alloc (.cells (ints (List.replicate S 0)) 2)
  have hN8 : Blk (w7.alloc (.cells (ints (List.replicate S 0)) 2)) w7.heap.size (ints (List.replicate S 0)) 2 := Blk.new _ _ _
  have hbw8 := below_alloc' hbw7 (.cells (ints (List.replicate S 0)) 2)
  have o5 : w.heap.size + 1 < w2.heap.size := hlt2
  have o6 : w2.heap.size < w4.heap.size := hlt4
  have o7 : w4.heap.size < w5.heap.size := hlt5
  have o8 : w5.heap.size < w7.heap.size := hlt7
  clear hB0 hR0 hbw0 hB1 hR1 hbw1 hb1 hB2 hR2 hbw2 hC2 hb2 hB3 hR3 hC3 hbw3 hs3 hB4 hR4 hC4 hbw4 hV4 hb4 hB5 hR5 hC5 hV5 hbw5 hs5 hB6 hR6 hC6 hV6 hbw6 hG6 hs7 hB7 hR7 hC7 hV7 hG7 hbw7 cA5 cA7 cA8 hlt2 hlt3 hlt4 hlt5 hlt7 hz hzm hbl hmk hm
  generalize w2.heap.size = g5 at *
  generalize w4.heap.size = g6 at *
  generalize w5.heap.size = g7 at *
  generalize w7.heap.size = g8 at *
  go_loopw [28] (fun i wr => ∃ q : Nat, q ≤ S ∧ i = .int .i64 q ∧ Blk wr w.heap.size (mc M) 27 ∧ Blk wr (w.heap.size + 1) (mc zeroM) 27 ∧ Blk wr g5 (c8 (clsU M L S (S + 1))) 194 ∧ Blk wr g6 (mc (vw M L S (S + 1))) 27 ∧ Blk wr g7 (mc (mnAll M L S q)) 27 ∧ Blk wr g8 (ints (numsP M L S S q)) 2 ∧ Below w.heap.size w wr) (fun i _ => S - (intOf i).toNat)
  case atStart => exact ⟨0, by omega, rfl, hB8, hR8, hC8, hV8, hG8, by rw [numsP_zero]; exact hN8, hbw8⟩
  case round =>
    clear hB8 hR8 hC8 hV8 hG8 hN8 hbw8
    obtain ⟨q, hq, rfl, hB, hR, hC, hV, hG, hN, hbw⟩ := hrel
    by_cases hlt : q < S
    · have hq16 : q < 16 := by omega
      have hqi : (q : Int) < 16 := by omega
      have hqS : (q : Int) < S := by omega
      obtain ⟨hup, hmS⟩ := mnAll_up Hg.out q hq
      have e1 := c8_at (clsU M L S (S + 1)) q (by rw [clsU_len]; omega)
      rw [clsU_at M L S (S + 1) q hlt hS16] at e1
      have hnq : num M L (S + 1) q = numT M L S q := rfl
      rw [hnq] at e1
      have hnle : numT M L S q ≤ q := num_le M L (S + 1) q
      have hcle := cntT_le M L S q
      have eS := mc_S (mnAll M L S q)
      rw [hmS] at eS
      have hl := numsP_len M L S S q hq
      have hold : (ints (numsP M L S S q))[q]? = some ((ints (numsP M L S S q))[q]'(by rw [ints_size, hl]; exact hlt)) := Array.getElem?_eq_getElem _
      generalize (ints (numsP M L S S q))[q]'(by rw [ints_size, hl]; exact hlt) = oldn at hold
      have Hset := Lib.hid (numsP_set M L S S q hlt)
      have cC := hC.cell
      have cN := hN.cell
      have fN := hN.free
      have cG := (hG.setOther g8 q (.int .i64 (numT M L S q : Int)) (by omega)).cell
      have hN1 := hN.set q (.int .i64 (numT M L S q : Int))
      rw [← ints_set, Hset.out] at hN1
      have hB1 := hB.setOther g8 q (.int .i64 (numT M L S q : Int)) (by omega)
      have hR1 := hR.setOther g8 q (.int .i64 (numT M L S q : Int)) (by omega)
      have hC1 := hC.setOther g8 q (.int .i64 (numT M L S q : Int)) (by omega)
      have hV1 := hV.setOther g8 q (.int .i64 (numT M L S q : Int)) (by omega)
      have hG1 := hG.setOther g8 q (.int .i64 (numT M L S q : Int)) (by omega)
      have hbw1 := below_set' (o := q) hbw (b := g8) (by omega) (.int .i64 (numT M L S q : Int))
      cases hr : repB M L (S + 1) q
      · have hnr := notrep_num hr
        have Hsame : Hid (mnAll M L S (q + 1) = mnAll M L S q) := Lib.hid (by show (if repB M L (S + 1) q = true then _ else _) = _; rw [if_neg (by rw [hr]; simp)])
        have htest : ((numT M L S q : Int) == (cntT M L S q : Int)) = false := by simp; omega
        clear hl hnq
        generalize numT M L S q = nk at *
        generalize cntT M L S q = ck at *
        go_wp2
        go_roundw
        case rel => exact ⟨q + 1, by omega, by go_num, hB1, hR1, hC1, hV1, by rw [Hsame.out]; exact hG1, hN1, hbw1⟩
        case measure => simp [intOf] <;> omega
      · have hnr := rep_num hr
        have htest : ((numT M L S q : Int) == (cntT M L S q : Int)) = true := by simp; omega
        have hmok := hup.ok
        have hk16 : numT M L S q < 16 := by omega
        have q1 := put3_ok hmok (numT M L S q * 3) (M.o q 0) (M.o q 1) (M.o q 2) (Mach.o_bd hok q 0) (Mach.o_bd hok q 1) (Mach.o_bd hok q 2)
        have Hp1 := Lib.hid (mc_put_ot hmok (numT M L S q) hk16 (M.o q 0) (M.o q 1) (M.o q 2))
        have Hp2 := Lib.hid (mc_put_nx q1.1 (numT M L S q) hk16 (nextT M L S q 0) (nextT M L S q 1) (nextT M L S q 2))
        have Hsame : Hid (mnAll M L S (q + 1) = { mnAll M L S q with ot := put3 (mnAll M L S q).ot (numT M L S q * 3) (M.o q 0) (M.o q 1) (M.o q 2), nx := put3 (mnAll M L S q).nx (numT M L S q * 3) (nextT M L S q 0) (nextT M L S q 1) (nextT M L S q 2), S := (mnAll M L S q).S + 1 }) := Lib.hid (by show (if repB M L (S + 1) q = true then _ else _) = _; rw [if_pos hr])
        have v0 := mc_o hvo q 0 hq16 (by omega)
        have v1 := mc_o hvo q 1 hq16 (by omega)
        have v2 := mc_o hvo q 2 hq16 (by omega)
        have u0 := mc_n hvo q 0 hq16 (by omega)
        have u1 := mc_n hvo q 1 hq16 (by omega)
        have u2 := mc_n hvo q 2 hq16 (by omega)
        rw [vw_o] at v0 v1 v2
        rw [vw_next Hg.out q _ hlt (by omega)] at u0 u1 u2
        have Hco3 := Lib.hid (cut_of (mc (vw M L S (S + 1))) (50 + q * 3) _ _ _ v0 v1 v2)
        have Hcn3 := Lib.hid (cut_of (mc (vw M L S (S + 1))) (2 + q * 3) _ _ _ u0 u1 u2)
        have Hms1 := Lib.hid (mc_size hmok)
        have Hms2 := Lib.hid (mc_size q1.1)
        have HmS := Lib.hid hmS
        have hck16 : cntT M L S q < 16 := by omega
        have Hnr := Lib.hid hnr.1
        have e1S := mc_S ({ mnAll M L S q with ot := put3 (mnAll M L S q).ot (numT M L S q * 3) (M.o q 0) (M.o q 1) (M.o q 2), nx := put3 (mnAll M L S q).nx (numT M L S q * 3) (nextT M L S q 0) (nextT M L S q 1) (nextT M L S q 2) } : Mach)
        rw [show ({ mnAll M L S q with ot := put3 (mnAll M L S q).ot (numT M L S q * 3) (M.o q 0) (M.o q 1) (M.o q 2), nx := put3 (mnAll M L S q).nx (numT M L S q * 3) (nextT M L S q 0) (nextT M L S q 1) (nextT M L S q 2) } : Mach).S = (cntT M L S q : Int) from hmS] at e1S
        have Hadd := Lib.hid (mc_set_S ({ mnAll M L S q with ot := put3 (mnAll M L S q).ot (numT M L S q * 3) (M.o q 0) (M.o q 1) (M.o q 2), nx := put3 (mnAll M L S q).nx (numT M L S q * 3) (nextT M L S q 0) (nextT M L S q 1) (nextT M L S q 2) } : Mach) ((mnAll M L S q).S + 1))
        clear hl hnq v0 v1 v2 u0 u1 u2 hmS hnr q1
        have hV0 := hV1.drew
        generalize numT M L S q = nk at *
        generalize cntT M L S q = ck at *
        have hki : (nk : Int) < 16 := by omega
        go_wp2_with fail
        clear cC cN fN cG eS e1 hold htest
        refine wp_region_held_drew (S := fun W => Blk W g6 (mc (vw M L S (S + 1))) 27) (by kernel_rfl) hV0 (fun hS0 => ?_)
        (refine hK_take 0 (.int .i64 (nk : Int)) rfl (by kernel_rfl) (by kernel_rfl) (by kernel_rfl) (fun _ _ _ h => h) rfl (fun W _ => by go_simp) hS0 ?_; (intro K hK; go_simp; refine hK _ ?_; clear hK K))
        (refine hK_take 1 (.int .i64 (nk : Int)) rfl (by kernel_rfl) (by kernel_rfl) (by kernel_rfl) (fun _ _ _ h => h) rfl (fun W _ => by go_simp) hS0 ?_; (intro K hK; go_simp; refine hK _ ?_; clear hK K))
        (refine hK_take 2 (.int .i64 (q : Int)) rfl (by kernel_rfl) (by kernel_rfl) (by kernel_rfl) (fun _ _ _ h => h) rfl (fun W _ => by go_simp) hS0 ?_; (intro K hK; go_simp; refine hK _ ?_; clear hK K))
        (refine hK_take 3 (.pointer (some ⟨g6, 50, none⟩)) rfl (by kernel_rfl) (by kernel_rfl) (by kernel_rfl) (fun _ _ _ h => h) rfl (fun W _ => by go_simp) hS0 ?_; (intro K hK; go_simp; refine hK _ ?_; clear hK K))
        (refine hK_take 4 (.pointer (some ⟨g6, 50 + q * 3, none⟩)) rfl (by kernel_rfl) (by kernel_rfl) (by kernel_rfl) (fun _ _ _ h => h) rfl (fun W _ => by go_simp) hS0 ?_; (intro K hK; go_simp; refine hK _ ?_; clear hK K))
        (refine hK_load 5 rfl (by kernel_rfl) (by kernel_rfl) (by kernel_rfl) 22 _ rfl g6 (50 + q * 3) rfl (mc (vw M L S (S + 1))) _ (fun W hW => hW) 3 (by rw [Hvs.out]; omega) _ Try.underlying22 rfl size_a3 _ Hco3.out (fun _ _ _ h => h) rfl hS0 ?_; (intro K hK; go_simp; refine hK _ ?_; clear hK K))
        (refine hK_take 6 (.int .i64 (q : Int)) rfl (by kernel_rfl) (by kernel_rfl) (by kernel_rfl) (fun _ _ _ h => h) rfl (fun W _ => by go_simp) hS0 ?_; (intro K hK; go_simp; refine hK _ ?_; clear hK K))
        (refine hK_take 7 (.pointer (some ⟨g6, 2, none⟩)) rfl (by kernel_rfl) (by kernel_rfl) (by kernel_rfl) (fun _ _ _ h => h) rfl (fun W _ => by go_simp) hS0 ?_; (intro K hK; go_simp; refine hK _ ?_; clear hK K))
        (refine hK_take 8 (.pointer (some ⟨g6, 2 + q * 3, none⟩)) rfl (by kernel_rfl) (by kernel_rfl) (by kernel_rfl) (fun _ _ _ h => h) rfl (fun W _ => by go_simp) hS0 ?_; (intro K hK; go_simp; refine hK _ ?_; clear hK K))
        (refine hK_load 9 rfl (by kernel_rfl) (by kernel_rfl) (by kernel_rfl) 22 _ rfl g6 (2 + q * 3) rfl (mc (vw M L S (S + 1))) _ (fun W hW => hW) 3 (by rw [Hvs.out]; omega) _ Try.underlying22 rfl size_a3 _ Hcn3.out (fun _ _ _ h => h) rfl hS0 ?_; (intro K hK; go_simp; refine hK _ ?_; clear hK K))
        (refine hK_take 10 (.pointer (some ⟨g7, 50, none⟩)) rfl (by kernel_rfl) (by kernel_rfl) (by kernel_rfl) (fun _ _ _ h => h) rfl (fun W _ => by go_simp) hS0 ?_; (intro K hK; go_simp; refine hK _ ?_; clear hK K))
        (refine hK_take 11 (.pointer (some ⟨g7, 50 + nk * 3, none⟩)) rfl (by kernel_rfl) (by kernel_rfl) (by kernel_rfl) (fun _ _ _ h => h) rfl (fun W _ => by go_simp) hS0 ?_; (intro K hK; go_simp; refine hK _ ?_; clear hK K))
        (refine hK_take 13 (.pointer (some ⟨g7, 2, none⟩)) rfl (by kernel_rfl) (by kernel_rfl) (by kernel_rfl) (fun _ _ _ h => h) rfl (fun W _ => by go_simp) hS0 ?_; (intro K hK; go_simp; refine hK _ ?_; clear hK K))
        have hB2 := hB1.drew; have hR2 := hR1.drew; have hC2 := hC1.drew; have hG2 := hG1.drew; have hN2 := hN1.drew; have hbw2 := below_drew' hbw1
        clear hB hR hC hV hG hN hbw hB1 hR1 hC1 hV1 hG1 hN1 hbw1 hV0
        generalize (wr.setCell ⟨g8, q, none⟩ (.int .i64 (nk : Int))).drew = w2 at *
        refine hK_store 12 rfl (by kernel_rfl) rfl 22 _ _ rfl g7 (50 + nk * 3) #[.int .u8 (M.o q 0), .int .u8 (M.o q 1), .int .u8 (M.o q 2)] rfl rfl _ _ hG2 (by rw [Hms1.out]; simp; omega) size_a3 (tri_one _ _ _) _ Hp1.out (fun w3 hs3 => ⟨hs3.keep (by omega) hS0, fun hS3 => ?_⟩)
        (intro K hK; go_simp; refine hK _ ?_; clear hK K)
        have hB3 := hs3.keep (by omega) hB2; have hR3 := hs3.keep (by omega) hR2; have hC3 := hs3.keep (by omega) hC2; have hG3 := hs3.blk; have hN3 := hs3.keep (by omega) hN2; have hbw3 := hs3.below _ _ (by omega) hbw2
        clear hB2 hR2 hC2 hG2 hN2 hbw2 hS0 hs3
        (refine hK_take 14 (.pointer (some ⟨g7, 2 + nk * 3, none⟩)) rfl (by kernel_rfl) (by kernel_rfl) (by kernel_rfl) (fun _ _ _ h => h) rfl (fun W _ => by go_simp) hS3 ?_; (intro K hK; go_simp; refine hK _ ?_; clear hK K))
        refine hK_store 15 rfl (by kernel_rfl) rfl 22 _ _ rfl g7 (2 + nk * 3) #[.int .u8 (nextT M L S q 0), .int .u8 (nextT M L S q 1), .int .u8 (nextT M L S q 2)] rfl rfl _ _ hG3 (by rw [Hms2.out]; simp; omega) size_a3 (tri_one _ _ _) _ Hp2.out (fun w4 hs4 => ⟨hs4.keep (by omega) hS3, fun hS4 => ?_⟩)
        (intro K hK; go_simp; refine hK _ ?_; clear hK K)
        refine wpAnyH_done (by kernel_rfl) ?_ _
        have hB4 := hs4.keep (by omega) hB3; have hR4 := hs4.keep (by omega) hR3; have hC4 := hs4.keep (by omega) hC3; have hG4 := hs4.blk; have hN4 := hs4.keep (by omega) hN3; have hbw4 := hs4.below _ _ (by omega) hbw3
        clear hB3 hR3 hC3 hG3 hN3 hbw3 hS3 hs4
        have cG4 := hG4.cell
        have fG4 := hG4.free
        have hG5 := hG4.set 1 (.int .i64 ((ck : Int) + 1))
        rw [← HmS.out, ← Hadd.out, ← Hsame.out] at hG5
        have eN : (mnAll M L S q).S = (ck : Int) := HmS.out
        have Hend : Hid (∀ v, v = Value.int .i64 ((ck : Int) + 1) → Blk (w4.setCell ⟨g7, 1, none⟩ v) g7 (mc (mnAll M L S (q + 1))) 27) := Lib.hid (by rintro v rfl; rw [← eN]; exact hG5)
        clear hG5 eN
        have hB5 := hB4.setOther g7 1 (.int .i64 ((ck : Int) + 1)) (by omega)
        have hR5 := hR4.setOther g7 1 (.int .i64 ((ck : Int) + 1)) (by omega)
        have hC5 := hC4.setOther g7 1 (.int .i64 ((ck : Int) + 1)) (by omega)
        have hV5 := Blk.setOther hS4 g7 1 (.int .i64 ((ck : Int) + 1)) (by omega)
        have hN5 := hN4.setOther g7 1 (.int .i64 ((ck : Int) + 1)) (by omega)
        have hbw5 := below_set' (o := 1) hbw4 (b := g7) (by omega) (.int .i64 ((ck : Int) + 1))
        clear hB4 hR4 hC4 hN4 hbw4 hS4 Hp1 Hp2 Hsame
        go_wp2
        go_roundw
        case rel => exact ⟨q + 1, by omega, by go_num, hB5, hR5, hC5, hV5, Hend.out _ rfl, hN5, hbw5⟩
        case measure => simp [intOf] <;> omega
    · obtain rfl : q = S := by omega
      have hup := (mnAll_up Hg.out q (Nat.le_refl q)).1.ok
      have Hms := Lib.hid (mc_size hup)
      have Hmc : Hid (cut (mc (mnAll M L q q)) 0 98 = mc (mnAll M L q q)) := Lib.hid (cut_all _ _ Hms.out)
      have Hmo : Hid (over (mc zeroM) 0 (mc (mnAll M L q q)) = mc (mnAll M L q q)) := Lib.hid (over_all _ _ (by rw [Hzs.out, Hms.out]))
      rw [numsP_all] at hN
      go_wp2_with (first | (with_reducible show wpList _ _ _ _ _ _; refine wpList_load_blk rfl 27 (.tmp 7) rfl g7 0 rfl (mc (mnAll M L q q)) _ hG 98 (by rw [Hms.out]; omega) _ Try.underlying27 rfl size_mach ?_; rw [Hmc.out]) | (with_reducible show wpList _ _ _ _ _ _; refine wpList_store_row rfl 27 (.tmp 2) (.tmp 62) rfl (w.heap.size + 1) 0 (mc (mnAll M L q q)) rfl rfl _ _ hR (by rw [Hzs.out, Hms.out]; omega) (by rw [Hms.out]; exact size_mach) (mc_one _) _ Hmo.out ?_; intro w9 hs9))
      have cR9 := hs9.blk
      exact bodyPost_cell2 rfl rfl cR9 Try.underlying27 rfl (by rw [Hms.out]; exact size_mach) rfl ⟨_, rfl, OwnI.made (numsT_len M L q q) (by unfold maxLen; omega) (by omega) (hs9.keep (by omega) hN), hs9.below _ _ (by omega) hbw⟩
end Go.Proofs.Ytliohokcjgcmhaa

namespace Go.Proofs.Ytliohokcjgcmhaa
open Go.RowKit

theorem ret_min {c c' : Array Value} {v : Value} {m m' : Int} (h : c = c') (h' : m = m') : Ending.returned (.tuple #[.agg c, v, .int .i64 m]) = Ending.returned (.tuple #[.agg c', v, .int .i64 m']) := by rw [h, h']
theorem zero_over : over (mc zeroM) 0 (mc zeroM) = mc zeroM := over_all _ _ rfl

set_option maxRecDepth 100000 in
set_option maxHeartbeats 2000000 in
theorem iMinimalMachine_calls (M : Mach) (hok : M.Ok) (w : World) :
    Calls Try.prog 150 #[.agg (mc M)] w fun e w' => ∃ v, e = .returned (.tuple #[.agg (mc (minR M)), v, .int .i64 (minC M)]) ∧ OwnI w' w.heap.size v (minN M) ∧ Below w.heap.size w w' := by
  cases hm : isMach M
  · have Hc : Hid (minC M = 1) := Lib.hid (by simp [minC, hm])
    have Hr : Hid (minR M = zeroM) := Lib.hid (by simp [minR, hm])
    have Hn : Hid (minN M = []) := Lib.hid (by simp [minN, hm])
    have F1 : Hid (cut (mc M) 0 98 = mc M) := Lib.hid (cut_all _ _ (mc_size hok)); have F2 : Hid (0 + 98 ≤ (mc M).size) := Lib.hid (by rw [mc_size hok]; omega)
    have hz := zero_mach
    have HzS : Hid ((mc zeroM).size = 98) := Lib.hid (mc_size zeroM_ok)
    have hB : Blk ((w.alloc (.cells (mc M) 27)).alloc (.cells (mc zeroM) 27)) w.heap.size (mc M) 27 := (Blk.new w _ _).alloc _
    have hR : Blk ((w.alloc (.cells (mc M) 27)).alloc (.cells (mc zeroM) 27)) (w.heap.size + 1) (mc zeroM) 27 := Blk.new_at _ _ _ _ (by simp)
    have hbw0 : Below w.heap.size w ((w.alloc (.cells (mc M) 27)).alloc (.cells (mc zeroM) 27)) := by (repeat (first | exact Below.refl _ _ | refine below_drew' ?_ | refine below_drewN' ?_ _ | refine below_alloc' ?_ _ | refine below_set' ?_ (by (try simp); (try omega)) _ | refine below_step ?_ (by assumption)))
    go_enter Try.func150, Try.ntmps150
    go_wp2_with (first | (with_reducible show wpList _ _ _ _ _ _; refine wpList_load_blk rfl 27 (.tmp 1) rfl w.heap.size 0 rfl (mc M) _ (hB) 98 F2.out _ Try.underlying27 rfl size_mach ?_; rw [F1.out]) | (go_at_call 73; refine (IsMachine_calls M hok _).mono ?_; rintro e w1 ⟨rfl, hb1⟩; rw [hm]; have hR1 := hR.keptAll hb1; have hbw1 := below_step hbw0 hb1) | (with_reducible show wpList _ _ _ _ _ _; refine wpList_store_row rfl 27 (.tmp 2) (.tmp 14) rfl (w.heap.size + 1) 0 (mc zeroM) rfl rfl _ _ hR1 (by rw [HzS.out]; omega) (by rw [HzS.out]; exact size_mach) (mc_one _) _ zero_over ?_; intro w4 hs4))
    have hb4 := hs4.blk
    have hbw4 := hs4.below _ _ (by omega) hbw1
    exact bodyPost_cell2 rfl rfl hb4 Try.underlying27 rfl (by rw [HzS.out]; exact size_mach) rfl ⟨_, ret_min (by rw [Hr.out]) Hc.out.symm, by rw [Hn.out]; exact OwnI.nil _ _, hbw4⟩
  · obtain ⟨L, S, hg⟩ := Good.of hok hm
    refine (iMinimal_good M L S hg w).mono ?_
    rintro e w' ⟨v, rfl, hv, hb⟩
    refine ⟨v, ret_min ?_ ?_, ?_, hb⟩
    · rw [show minR M = mnAll M L S S by simp [minR, hm, hg.hL, hg.hS]]
    · simp [minC, hm]
    · rw [show minN M = numsT M L S S by simp [minN, hm, hg.hL, hg.hS]]; exact hv
end Go.Proofs.Ytliohokcjgcmhaa

namespace Go.Proofs.Ytliohokcjgcmhaa
open Go.RowKit

/-- So far as the first k letters tell, the state q of m stays. -/
def stayUp (m : Mach) (q k : Nat) : Bool := (List.range k).all fun x => decide (m.o q x = (x : Int)) && decide (m.n q x = (q : Int))
theorem stayUp_succ (m : Mach) (q k : Nat) : stayUp m q (k + 1) = (stayUp m q k && (decide (m.o q k = (k : Int)) && decide (m.n q k = (q : Int)))) := by
  simp [stayUp, List.range_succ]
theorem stayUp_no (m : Mach) (q k L : Nat) (hk : k < L) (h : (decide (m.o q k = (k : Int)) && decide (m.n q k = (q : Int))) = false) : stayUp m q L = false := by
  unfold stayUp; rw [List.all_eq_false]; exact ⟨k, by simpa using hk, by rw [h]; simp⟩
theorem stayUp_iff (m : Mach) (q k : Nat) : stayUp m q k = true ↔ ∀ x, x < k → m.o q x = (x : Int) ∧ m.n q x = (q : Int) := by simp [stayUp]

theorem ret_bool' {a b : Bool} (h : a = b) : Ending.returned (.bool a) = Ending.returned (.bool b) := by rw [h]
set_option maxRecDepth 100000 in
set_option maxHeartbeats 1000000 in
theorem staysTrivial_calls (m : Mach) (hok : m.Ok) (L : Nat) (hL : m.L = L) (hL3 : L ≤ 3) (q : Nat) (hq : q < 16) (w : World) :
    Calls Try.prog 151 #[.agg (mc m), .int .i64 q] w fun e w' => e = .returned (.bool (stayUp m q L)) ∧ Below w.heap.size w w' := by
  have hcL := mc_L m
  rw [hL] at hcL
  have hB1 : Blk (w.alloc (.cells (mc m) 27)) w.heap.size (mc m) 27 := Blk.new w _ _
  have hbw0 : Below w.heap.size w (w.alloc (.cells (mc m) 27)) := by (repeat (first | exact Below.refl _ _ | refine below_drew' ?_ | refine below_drewN' ?_ _ | refine below_alloc' ?_ _ | refine below_set' ?_ (by (try simp); (try omega)) _ | refine below_step ?_ (by assumption)))
  have hqi : (q : Int) < 16 := by omega
  have cA := hB1.cell
  go_enter Try.func151, Try.ntmps151
  go_wp2
  go_loopw [8] (fun i wr => ∃ k : Nat, k ≤ L ∧ i = .int .i64 k ∧ Blk wr w.heap.size (mc m) 27 ∧ Below w.heap.size w wr ∧ Hid (stayUp m q k = true)) (fun i _ => L - (intOf i).toNat)
  case atStart => exact ⟨0, by omega, rfl, hB1, hbw0, Lib.hid rfl⟩
  case round =>
    clear hB1 hbw0 cA
    obtain ⟨k, hk, rfl, hB, hbw, HU⟩ := hrel
    have cA := hB.cell
    by_cases hlt : k < L
    · have hki : (k : Int) < 3 := by omega
      have hkL : (k : Int) < L := by omega
      have hk3 : k < 3 := by omega
      have o1 := mc_o hok q k hq hk3
      have n1 := mc_n hok q k hq hk3
      have Hs := Lib.hid (stayUp_succ m q k)
      have Hno : Hid ((decide (m.o q k = (k : Int)) && decide (m.n q k = (q : Int))) = false → stayUp m q L = false) := Lib.hid (stayUp_no m q k L hlt)
      have ob := Mach.o_bd hok q k
      have nb := Mach.n_bd hok q k
      generalize m.o q k = v1 at *
      generalize m.n q k = v2 at *
      by_cases hv : v1 = (k : Int)
      · have hv' : (v1 != (k : Int)) = false := by simpa using hv
        by_cases hc : v2 = (q : Int)
        · have hc' : (v2 != (q : Int)) = false := by simpa using hc
          have Hn : Hid (stayUp m q (k + 1) = true) := Lib.hid (by rw [Hs.out, HU.out]; simp [hv, hc])
          clear hv hc Hno Hs
          go_wp2
          go_roundw
          case rel => exact ⟨k + 1, by omega, by go_num, hB, hbw, Hn⟩
          case measure => simp [intOf] <;> omega
        · have hc' : (v2 != (q : Int)) = true := by simpa using hc
          have Hn := Lib.hid (Hno.out (by simp [hc]))
          clear hv hc Hno Hs
          go_wp2
          go_ret
          exact ⟨ret_bool' Hn.out.symm, hbw⟩
      · have hv' : (v1 != (k : Int)) = true := by simpa using hv
        have Hn := Lib.hid (Hno.out (by simp [hv]))
        clear hv Hno Hs
        go_wp2
        go_ret
        exact ⟨ret_bool' Hn.out.symm, hbw⟩
    · have hLk : L = k := by omega
      subst hLk
      go_wp2
      go_ret
      exact ⟨ret_bool' HU.out.symm, hbw⟩
end Go.Proofs.Ytliohokcjgcmhaa

namespace Go.Proofs.Ytliohokcjgcmhaa
open Go.RowKit

/-- The trivial states among the first k. -/
def triN (M : Mach) (L S k : Nat) : List Nat := (List.range k).filter fun q => trivB M L S q
def triK (M : Mach) (L S k : Nat) : List Int := (triN M L S k).map Int.ofNat
theorem triK_len (M : Mach) (L S k : Nat) : (triK M L S k).length ≤ k := by
  unfold triK triN
  rw [List.length_map]
  exact Nat.le_trans (List.length_filter_le _ _) (by simp)
theorem triK_yes {M : Mach} {L S k : Nat} (h : trivB M L S k = true) : triK M L S (k + 1) = triK M L S k ++ [(k : Int)] := by
  simp [triK, triN, List.range_succ, List.filter_append, h]
theorem triK_no {M : Mach} {L S k : Nat} (h : trivB M L S k = false) : triK M L S (k + 1) = triK M L S k := by
  simp [triK, triN, List.range_succ, List.filter_append, h]
def triR (M : Mach) : List Int := if isMach M then triK M M.L.toNat M.S.toNat M.S.toNat else []
theorem triR_len {M : Mach} (h : M.Ok) : (triR M).length ≤ 1048576 := by
  unfold triR
  split
  · rename_i hm
    obtain ⟨L, S, hg⟩ := Good.of h hm
    have h1 := triK_len M M.L.toNat M.S.toNat M.S.toNat
    have h2 := hg.S16
    rw [hg.hS] at h1
    rw [hg.hS]
    simp only [Int.toNat_natCast] at h1 ⊢
    omega
  · simp
/-- A state is trivial as its number in the minimal machine stays. -/
theorem stay_triv {M : Mach} {L S : Nat} (hg : Good M L S) (q : Nat) (hq : q < S) : stayUp (mnAll M L S S) (numT M L S q) L = trivB M L S q := by
  have hL3 := hg.L3
  obtain ⟨hup, _⟩ := mnAll_up hg S (Nat.le_refl S)
  rw [Bool.eq_iff_iff, stayUp_iff, trivB_iff hg (still_from hg (S + 1) (by omega)) hq]
  constructor
  · intro h x hx
    have h1 := h x hx
    have h2 := hup.rows q hq x (by omega)
    rw [h2.1, h2.2] at h1
    refine ⟨h1.1, ?_⟩
    have h3 := h1.2
    unfold nextT at h3
    rw [if_pos hx] at h3
    exact numT_eqB.1 (by omega)
  · intro h x hx
    have h2 := hup.rows q hq x (by omega)
    rw [h2.1, h2.2]
    refine ⟨(h x hx).1, ?_⟩
    unfold nextT
    rw [if_pos hx, numT_eqB.2 (h x hx).2]
end Go.Proofs.Ytliohokcjgcmhaa

namespace Go.Proofs.Ytliohokcjgcmhaa
open Go.RowKit

theorem ret_li {v : Value} {m m' : Int} (h' : m = m') : Ending.returned (.tuple #[v, .int .i64 m]) = Ending.returned (.tuple #[v, .int .i64 m']) := by rw [h']

theorem tri_le {w : World} {base base' : Nat} {v : Value} {zs : List Int} (h : OwnI w base v zs) (hb : base' ≤ base) : OwnI w base' v zs := by
  refine ⟨h.1, ?_⟩
  rcases h.2 with h2 | ⟨g, cap, cur, hv', hg', r⟩
  · exact Or.inl h2
  · exact Or.inr ⟨g, cap, cur, hv', by omega, r⟩

end Go.Proofs.Ytliohokcjgcmhaa
