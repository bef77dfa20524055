/- 'AreEqualAcross': the model. Written by gen/genac.py. · 'AreEqualAcross': the program. Written by gen/genac.py. · The statement on 'AreEqualAcross', walked. -/
import Derived.Test.YtkkooafjpancoaaStM
import Derived.Test.YtkkooafjpancoaaAcD
import Derived.Test.YtkkooafjpancoaaProO
import Derived.Test.YtkkooafjpancoaaConv
namespace Go.Proofs.Ytkkooafjpancoaa
open Go.RowKit

set_option maxRecDepth 100000 in
set_option maxHeartbeats 4000000 in
theorem sAreEqualAcross_calls (M : Mach) (hok : M.Ok) (q : Int) (J : Mach) (hoj : J.Ok) (r : Int) (w : World) :
    Calls Try.prog 25 #[.agg (mc M), .int .i64 q, .agg (mc J), .int .i64 r] w fun e w' => e = .returned (.tuple #[.bool (acB M q J r), .int .i64 (twoC M q J r)]) ∧ Below w.heap.size w w' := by
  have F1 : Hid (cut (mc M) 0 98 = mc M) := Lib.hid (cut_all _ _ (mc_size hok))
  have F2 : Hid (0 + 98 ≤ (mc M).size) := Lib.hid (by rw [mc_size hok]; omega)
  have G1 : Hid (cut (mc J) 0 98 = mc J) := Lib.hid (cut_all _ _ (mc_size hoj))
  have G2 : Hid (0 + 98 ≤ (mc J).size) := Lib.hid (by rw [mc_size hoj]; omega)
  have hM0 : Blk ((w.alloc (.cells (mc M) 28)).alloc (.cells (mc J) 28)) w.heap.size (mc M) 28 := (Blk.new w _ _).alloc _
  have hJ0 : Blk ((w.alloc (.cells (mc M) 28)).alloc (.cells (mc J) 28)) (w.heap.size + 1) (mc J) 28 := Blk.new_at _ _ _ _ (by simp)
  have hb0 : Below w.heap.size w ((w.alloc (.cells (mc M) 28)).alloc (.cells (mc J) 28)) := by (repeat (first | exact Below.refl _ _ | refine below_drew' ?_ | refine below_drewN' ?_ _ | refine below_alloc' ?_ _ | refine below_set' ?_ (by (try simp); (try omega)) _ | refine below_step ?_ (by assumption)))
  by_cases h0 : twoC M q J r = 0
  · obtain ⟨L, S, T, qn, rn, hgM, hgJ, rfl, rfl, hq, hr⟩ := two_good hok hoj h0
    have HB : Hid (acB M qn J rn = decide (stM M L qn = stM J L rn)) := Lib.hid (by rw [acB_yes h0, stN_eq hgM, stN_eq hgJ])
    have HT := Lib.hid h0
    have Heq := Lib.hid (fun W => run_eq_mach (stM_good hgM hq).ok (stM_good hgJ hr).ok W)
    have HMM := Lib.hid (fun W => l07Machine_calls M L S hgM qn hq W)
    have HMJ := Lib.hid (fun W => l07Machine_calls J L T hgJ rn hr W)
    have HCh := Lib.hid (fun W => l07Both_calls M J hok hoj qn rn W)
    rw [h0] at HCh
    clear h0 hgM hgJ
    generalize stM M L qn = X at *
    generalize stM J L rn = Y at *
    generalize acB M qn J rn = ab at *
    go_enter Try.func25, Try.ntmps25
    go_wp2_with (first | (with_reducible show wpList _ _ _ _ _ _; refine wpList_load_blk rfl 28 (.tmp 4) rfl w.heap.size 0 rfl (mc M) _ hM0 98 F2.out _ Try.underlying28 rfl size_mach ?_; rw [F1.out]) | (with_reducible show wpList _ _ _ _ _ _; refine wpList_load_blk rfl 28 (.tmp 6) rfl (w.heap.size + 1) 0 rfl (mc J) _ hJ0 98 G2.out _ Try.underlying28 rfl size_mach ?_; rw [G1.out]) | (go_at_call 45; refine (HCh.out _).mono ?_; rintro e w1 ⟨rfl, hc1⟩; have hM1 := hM0.keptAll hc1; have hJ1 := hJ0.keptAll hc1; have hb1 := below_step hb0 hc1))
    refine wp_region_quiet (C := (fun W => Blk W w.heap.size (mc M) 28 ∧ Blk W (w.heap.size + 1) (mc J) 28 ∧ Below w.heap.size w W)) (by kernel_rfl) (by kernel_rfl) ⟨hM1.drew, hJ1.drew, below_drew' hb1⟩ ?_
    refine wpK_load rfl 28 _ rfl w.heap.size 0 rfl (mc M) _ (fun W hW => hW.1) 98 F2.out _ Try.underlying28 rfl size_mach _ F1.out ?_; (intro K hK; go_simp; refine hK _ ?_; clear hK K)
    refine wpK_val rfl (.int .i64 (qn : Int)) (fun W _ => by go_simp) ?_; (intro K hK; go_simp; refine hK _ ?_; clear hK K)
    refine wpK_call rfl 52 #[.agg (mc M), .int .i64 (qn : Int)] (.agg (mc X)) (fun W => by go_simp) (fun W hW => (HMM.out W).mono fun e w'' h => ⟨h.1, hW.1.keptAll h.2, hW.2.1.keptAll h.2, below_step hW.2.2 h.2⟩) ?_; (intro K hK; go_simp; refine hK _ ?_; clear hK K)
    refine wpK_load rfl 28 _ rfl (w.heap.size + 1) 0 rfl (mc J) _ (fun W hW => hW.2.1) 98 G2.out _ Try.underlying28 rfl size_mach _ G1.out ?_; (intro K hK; go_simp; refine hK _ ?_; clear hK K)
    refine wpK_val rfl (.int .i64 (rn : Int)) (fun W _ => by go_simp) ?_; (intro K hK; go_simp; refine hK _ ?_; clear hK K)
    refine wpK_call rfl 52 #[.agg (mc J), .int .i64 (rn : Int)] (.agg (mc Y)) (fun W => by go_simp) (fun W hW => (HMJ.out W).mono fun e w'' h => ⟨h.1, hW.1.keptAll h.2, hW.2.1.keptAll h.2, below_step hW.2.2 h.2⟩) ?_; (intro K hK; go_simp; refine hK _ ?_; clear hK K)
    refine wpK_val rfl (.bool (decide (X = Y))) (fun W _ => exec_eql 28 28 (.tmp 21) (.tmp 24) rfl (mc X) (mc Y) _ rfl rfl W (by kernel_rfl) (Heq.out W)) ?_; (intro K hK; go_simp; refine hK _ ?_; clear hK K)
    refine wpK_val rfl (.bool (decide (X = Y))) (fun W _ => by go_simp) ?_; (intro K hK; go_simp; refine hK _ ?_; clear hK K)
    refine wpK_val rfl (.int .i64 0) (fun W _ => by go_simp) ?_; (intro K hK; go_simp; refine hK _ ?_; clear hK K)
    refine wpQuiet_nil ?_
    rintro w6 ⟨_, _, hb6⟩
    go_wp2
    go_ret2
    exact ⟨by rw [HB.out, HT.out]; try rfl, hb6⟩
  · have HB := Lib.hid (acB_no h0)
    have hne : (twoC M q J r == 0) = false := by simpa using h0
    have hne2 : (twoC M q J r != 0) = true := by simpa using h0
    clear h0
    go_enter Try.func25, Try.ntmps25
    go_wp2_with (first | (with_reducible show wpList _ _ _ _ _ _; refine wpList_load_blk rfl 28 (.tmp 4) rfl w.heap.size 0 rfl (mc M) _ hM0 98 F2.out _ Try.underlying28 rfl size_mach ?_; rw [F1.out]) | (with_reducible show wpList _ _ _ _ _ _; refine wpList_load_blk rfl 28 (.tmp 6) rfl (w.heap.size + 1) 0 rfl (mc J) _ hJ0 98 G2.out _ Try.underlying28 rfl size_mach ?_; rw [G1.out]) | (go_at_call 45; refine (l07Both_calls M J hok hoj q r _).mono ?_; rintro e w1 ⟨rfl, hc1⟩; have hM1 := hM0.keptAll hc1; have hJ1 := hJ0.keptAll hc1; have hb1 := below_step hb0 hc1))
    go_ret2
    exact ⟨by rw [HB.out]; try rfl, hb1⟩
end Go.Proofs.Ytkkooafjpancoaa

namespace Go.Proofs.Ytkkooafjpancoaa
open Go.RowKit

set_option maxRecDepth 100000 in
theorem facs_one {M : Mach} {L S : Nat} (hg : Good M L S) (b q : Nat) (hq : q < S) : facs L (trivM L) [⟨M, S, b, q⟩] = (stM M L q, true) := by
  obtain ⟨h1, h2⟩ := triv_prod hg hq
  have h3 : (prodQ (trivM L) M L S (0 * S + q)).length ≤ 16 := by rw [Nat.zero_mul, Nat.zero_add, h2]; exact stQ_le hg hq
  rw [facs_next (P := trivM L) (f := ⟨M, S, b, q⟩) (fs := []) h3]
  show (prodM (trivM L) M L S (0 * S + q), true) = _
  rw [Nat.zero_mul, Nat.zero_add, h1]
set_option maxRecDepth 100000 in
theorem productOf_one {M : Mach} {L S : Nat} (hg : Good M L S) (b q : Nat) (hq : q < S) (W : World) (g : Nat) (hG : Blk W g #[.pointer (some ⟨b, 0, none⟩), .int .i64 (q : Int)] 57) (hM : Blk W b (mc M) 28) :
    Calls Try.prog 53 #[.int .i64 (L : Int), .slice (some ⟨g, 0, none⟩) 1 1] W fun e w' => e = .returned (.agg (mc (stM M L q))) ∧ Below W.heap.size W w' := by
  have hv : SeesG W (.slice (some ⟨g, 0, none⟩) 1 1) [⟨M, S, b, q⟩] := by
    refine ⟨some ⟨g, 0, none⟩, 1, by simp, fun _ => ⟨g, _, rfl, hG, fun i hi => ?_⟩⟩
    obtain rfl : i = 0 := by simp at hi; omega
    constructor <;> simp
  have hfs : ∀ f ∈ [Fac.mk M S b q], Good f.m L f.S ∧ f.q < f.S := by
    intro f hf
    rw [List.mem_singleton] at hf
    subst hf
    exact ⟨hg, hq⟩
  have hbs : ∀ f ∈ [Fac.mk M S b q], Blk W f.b (mc f.m) 28 := by
    intro f hf
    rw [List.mem_singleton] at hf
    subst hf
    exact hM
  have H := productOf_calls L hg.L2 hg.L3 [⟨M, S, b, q⟩] (by simp) hfs _ W hv hbs
  unfold facsOk at H
  rw [facs_one hg b q hq] at H
  exact H
theorem built_gd (b : Nat) (x : Int) : Try.prog.built 57 [(0, .pointer (some ⟨b, 0, none⟩)), (1, .int .i64 x)] = some #[.pointer (some ⟨b, 0, none⟩), .int .i64 x] := by kernel_rfl

set_option maxRecDepth 100000 in
set_option maxHeartbeats 4000000 in
theorem iAreEqualAcross_calls (M : Mach) (hok : M.Ok) (q : Int) (J : Mach) (hoj : J.Ok) (r : Int) (w : World) :
    Calls Try.prog 26 #[.agg (mc M), .int .i64 q, .agg (mc J), .int .i64 r] w fun e w' => e = .returned (.tuple #[.bool (acB M q J r), .int .i64 (twoC M q J r)]) ∧ Below w.heap.size w w' := by
  have F1 : Hid (cut (mc M) 0 98 = mc M) := Lib.hid (cut_all _ _ (mc_size hok))
  have F2 : Hid (0 + 98 ≤ (mc M).size) := Lib.hid (by rw [mc_size hok]; omega)
  have G1 : Hid (cut (mc J) 0 98 = mc J) := Lib.hid (cut_all _ _ (mc_size hoj))
  have G2 : Hid (0 + 98 ≤ (mc J).size) := Lib.hid (by rw [mc_size hoj]; omega)
  have hM0 : Blk ((w.alloc (.cells (mc M) 28)).alloc (.cells (mc J) 28)) w.heap.size (mc M) 28 := (Blk.new w _ _).alloc _
  have hJ0 : Blk ((w.alloc (.cells (mc M) 28)).alloc (.cells (mc J) 28)) (w.heap.size + 1) (mc J) 28 := Blk.new_at _ _ _ _ (by simp)
  have hb0 : Below w.heap.size w ((w.alloc (.cells (mc M) 28)).alloc (.cells (mc J) 28)) := by (repeat (first | exact Below.refl _ _ | refine below_drew' ?_ | refine below_drewN' ?_ _ | refine below_alloc' ?_ _ | refine below_set' ?_ (by (try simp); (try omega)) _ | refine below_step ?_ (by assumption)))
  by_cases h0 : twoC M q J r = 0
  · obtain ⟨L, S, T, qn, rn, hgM, hgJ, rfl, rfl, hq, hr⟩ := two_good hok hoj h0
    have HB : Hid (acB M qn J rn = decide (stM M L qn = stM J L rn)) := Lib.hid (by rw [acB_yes h0, stN_eq hgM, stN_eq hgJ])
    have HT := Lib.hid h0
    have Heq := Lib.hid (fun W => run_eq_mach (stM_good hgM hq).ok (stM_good hgJ hr).ok W)
    have hcL := mc_L M
    rw [hgM.hL] at hcL
    have HcL := Lib.hid hcL
    have HPM : Hid (∀ W g, Blk W g #[.pointer (some ⟨w.heap.size, 0, none⟩), .int .i64 (qn : Int)] 57 → Blk W w.heap.size (mc M) 28 → Blk W (w.heap.size + 1) (mc J) 28 → Calls Try.prog 53 #[.int .i64 (L : Int), .slice (some ⟨g, 0, none⟩) 1 1] W fun e w' => e = .returned (.agg (mc (stM M L qn))) ∧ Below W.heap.size W w') := Lib.hid (fun W g hG hM hJ => productOf_one hgM w.heap.size qn hq W g hG hM)
    have HPJ : Hid (∀ W g, Blk W g #[.pointer (some ⟨w.heap.size + 1, 0, none⟩), .int .i64 (rn : Int)] 57 → Blk W w.heap.size (mc M) 28 → Blk W (w.heap.size + 1) (mc J) 28 → Calls Try.prog 53 #[.int .i64 (L : Int), .slice (some ⟨g, 0, none⟩) 1 1] W fun e w' => e = .returned (.agg (mc (stM J L rn))) ∧ Below W.heap.size W w') := Lib.hid (fun W g hG hM hJ => productOf_one hgJ (w.heap.size + 1) rn hr W g hG hJ)
    have HCh := Lib.hid (fun W => checkStates_calls M J hok hoj qn rn W)
    rw [h0] at HCh
    clear h0 hgM hgJ hcL
    generalize stM M L qn = X at *
    generalize stM J L rn = Y at *
    generalize acB M qn J rn = ab at *
    go_enter Try.func26, Try.ntmps26
    go_wp2_with (first | (with_reducible show wpList _ _ _ _ _ _; refine wpList_load_blk rfl 28 (.tmp 4) rfl w.heap.size 0 rfl (mc M) _ hM0 98 F2.out _ Try.underlying28 rfl size_mach ?_; rw [F1.out]) | (with_reducible show wpList _ _ _ _ _ _; refine wpList_load_blk rfl 28 (.tmp 6) rfl (w.heap.size + 1) 0 rfl (mc J) _ hJ0 98 G2.out _ Try.underlying28 rfl size_mach ?_; rw [G1.out]) | (go_at_call 47; refine (HCh.out _).mono ?_; rintro e w1 ⟨rfl, hc1⟩; have hM1 := hM0.keptAll hc1; have hJ1 := hJ0.keptAll hc1; have hb1 := below_step hb0 hc1))
    have hS0 : Blk w1.drew w.heap.size (mc M) 28 ∧ Blk w1.drew (w.heap.size + 1) (mc J) 28 ∧ Below w.heap.size w w1.drew := ⟨hM1.drew, hJ1.drew, below_drew' hb1⟩
    refine wp_region_held_drew (S := (fun W => Blk W w.heap.size (mc M) 28 ∧ Blk W (w.heap.size + 1) (mc J) 28 ∧ Below w.heap.size w W)) (by kernel_rfl) hS0 (fun hS9 => ?_)
    clear hS9 hM1 hJ1 hb1 hc1
    generalize w1.drew = wd at *
    (refine hK_take 0 (.pointer (some ⟨w.heap.size, 0, none⟩)) rfl (by kernel_rfl) (by kernel_rfl) (by kernel_rfl) (fun _ _ _ h => h) rfl (fun W _ => by go_simp) hS0 ?_; (intro K hK; go_simp; refine hK _ ?_; clear hK K))
    (refine hK_take 1 (.int .i64 (L : Int)) rfl (by kernel_rfl) (by kernel_rfl) (by kernel_rfl) (fun _ _ _ h => h) rfl (fun W hW => by have cC := (hW.1.cell 0).trans HcL.out; clear hW; go_simp) hS0 ?_; (intro K hK; go_simp; refine hK _ ?_; clear hK K))
    (refine hK_take 2 (.int .i64 (qn : Int)) rfl (by kernel_rfl) (by kernel_rfl) (by kernel_rfl) (fun _ _ _ h => h) rfl (fun W _ => by go_simp) hS0 ?_; (intro K hK; go_simp; refine hK _ ?_; clear hK K))
    (refine hK_take 3 (.agg #[.pointer (some ⟨w.heap.size, 0, none⟩), .int .i64 (qn : Int)]) rfl (by kernel_rfl) (by kernel_rfl) (by kernel_rfl) (fun _ _ _ h => h) rfl (fun W _ => exec_bld2 57 0 1 (.tmp 4) (.tmp 21) rfl _ _ rfl rfl _ (built_gd _ _) W) hS0 ?_; (intro K hK; go_simp; refine hK _ ?_; clear hK K))
    (refine hK_take 6 (.pointer (some ⟨w.heap.size, 0, none⟩)) rfl (by kernel_rfl) (by kernel_rfl) (by kernel_rfl) (fun _ _ _ h => h) rfl (fun W _ => by go_simp) hS0 ?_; (intro K hK; go_simp; refine hK _ ?_; clear hK K))
    (refine hK_take 7 (.int .i64 (L : Int)) rfl (by kernel_rfl) (by kernel_rfl) (by kernel_rfl) (fun _ _ _ h => h) rfl (fun W hW => by have cC := (hW.1.cell 0).trans HcL.out; clear hW; go_simp) hS0 ?_; (intro K hK; go_simp; refine hK _ ?_; clear hK K))
    (refine hK_take 8 (.int .i64 (rn : Int)) rfl (by kernel_rfl) (by kernel_rfl) (by kernel_rfl) (fun _ _ _ h => h) rfl (fun W _ => by go_simp) hS0 ?_; (intro K hK; go_simp; refine hK _ ?_; clear hK K))
    (refine hK_take 9 (.agg #[.pointer (some ⟨w.heap.size + 1, 0, none⟩), .int .i64 (rn : Int)]) rfl (by kernel_rfl) (by kernel_rfl) (by kernel_rfl) (fun _ _ _ h => h) rfl (fun W _ => exec_bld2 57 0 1 (.tmp 6) (.tmp 27) rfl _ _ rfl rfl _ (built_gd _ _) W) hS0 ?_; (intro K hK; go_simp; refine hK _ ?_; clear hK K))
    refine wpAnyH_ready (rs := [4, 10]) (by kernel_rfl) (by simp) ?_
    refine AllReadyH.cons rfl (fun K hK => ?_) (AllReadyH.cons rfl (fun K hK => ?_) AllReadyH.nil)
    · go_simp
      have hal1 : Below wd.heap.size wd (wd.alloc (.cells #[.pointer (some ⟨w.heap.size, 0, none⟩), .int .i64 (qn : Int)] 57)) := (Below.refl _ _).alloc (Nat.le_refl _) _
      have hS1 : Blk (wd.alloc (.cells #[.pointer (some ⟨w.heap.size, 0, none⟩), .int .i64 (qn : Int)] 57)) w.heap.size (mc M) 28 ∧ Blk (wd.alloc (.cells #[.pointer (some ⟨w.heap.size, 0, none⟩), .int .i64 (qn : Int)] 57)) (w.heap.size + 1) (mc J) 28 ∧ Below w.heap.size w (wd.alloc (.cells #[.pointer (some ⟨w.heap.size, 0, none⟩), .int .i64 (qn : Int)] 57)) := ⟨hS0.1.keptAll hal1, hS0.2.1.keptAll hal1, below_step hS0.2.2 hal1⟩
      have hGA_1 : Blk (wd.alloc (.cells #[.pointer (some ⟨w.heap.size, 0, none⟩), .int .i64 (qn : Int)] 57)) wd.heap.size #[.pointer (some ⟨w.heap.size, 0, none⟩), .int .i64 (qn : Int)] 57 := Blk.new _ _ _
      refine hK.out _ _ hS1 (fun hT1 => ?_)
      clear hK K hal1 hT1
      generalize (wd.alloc (.cells #[.pointer (some ⟨w.heap.size, 0, none⟩), .int .i64 (qn : Int)] 57)) = W1 at *
      generalize wd.heap.size = gA at *
      refine wpAnyH_ready (rs := [5, 10]) (by kernel_rfl) (by simp) ?_
      refine AllReadyH.cons rfl (fun K hK => ?_) (AllReadyH.cons rfl (fun K hK => ?_) AllReadyH.nil)
      · go_simp
        refine (HPM.out W1 gA hGA_1 hS1.1 hS1.2.1).mono ?_
        rintro e W2 ⟨rfl, hc2⟩
        have hS2 : Blk W2 w.heap.size (mc M) 28 ∧ Blk W2 (w.heap.size + 1) (mc J) 28 ∧ Below w.heap.size w W2 := ⟨hS1.1.keptAll hc2, hS1.2.1.keptAll hc2, below_step hS1.2.2 hc2⟩
        go_simp
        refine hK.out _ _ hS2 (fun hT2 => ?_)
        clear hK K hc2 hT2
        refine wpAnyH_ready (rs := [10]) (by kernel_rfl) (by simp) ?_
        refine AllReadyH.cons rfl (fun K hK => ?_) AllReadyH.nil
        · go_simp
          have hal3 : Below W2.heap.size W2 (W2.alloc (.cells #[.pointer (some ⟨(w.heap.size + 1), 0, none⟩), .int .i64 (rn : Int)] 57)) := (Below.refl _ _).alloc (Nat.le_refl _) _
          have hS3 : Blk (W2.alloc (.cells #[.pointer (some ⟨(w.heap.size + 1), 0, none⟩), .int .i64 (rn : Int)] 57)) w.heap.size (mc M) 28 ∧ Blk (W2.alloc (.cells #[.pointer (some ⟨(w.heap.size + 1), 0, none⟩), .int .i64 (rn : Int)] 57)) (w.heap.size + 1) (mc J) 28 ∧ Below w.heap.size w (W2.alloc (.cells #[.pointer (some ⟨(w.heap.size + 1), 0, none⟩), .int .i64 (rn : Int)] 57)) := ⟨hS2.1.keptAll hal3, hS2.2.1.keptAll hal3, below_step hS2.2.2 hal3⟩
          have hGB_3 : Blk (W2.alloc (.cells #[.pointer (some ⟨(w.heap.size + 1), 0, none⟩), .int .i64 (rn : Int)] 57)) W2.heap.size #[.pointer (some ⟨(w.heap.size + 1), 0, none⟩), .int .i64 (rn : Int)] 57 := Blk.new _ _ _
          refine hK.out _ _ hS3 (fun hT3 => ?_)
          clear hK K hal3 hT3
          generalize (W2.alloc (.cells #[.pointer (some ⟨(w.heap.size + 1), 0, none⟩), .int .i64 (rn : Int)] 57)) = W3 at *
          generalize W2.heap.size = gB at *
          refine wpAnyH_ready (rs := [11]) (by kernel_rfl) (by simp) ?_
          refine AllReadyH.cons rfl (fun K hK => ?_) AllReadyH.nil
          · go_simp
            refine (HPJ.out W3 gB hGB_3 hS3.1 hS3.2.1).mono ?_
            rintro e W4 ⟨rfl, hc4⟩
            have hS4 : Blk W4 w.heap.size (mc M) 28 ∧ Blk W4 (w.heap.size + 1) (mc J) 28 ∧ Below w.heap.size w W4 := ⟨hS3.1.keptAll hc4, hS3.2.1.keptAll hc4, below_step hS3.2.2 hc4⟩
            go_simp
            refine hK.out _ _ hS4 (fun hT4 => ?_)
            clear hK K hc4 hT4
            refine hK_take 12 (.bool (decide (X = Y))) rfl (by kernel_rfl) (by kernel_rfl) (by kernel_rfl) (fun _ _ _ h => h) rfl (fun W _ => exec_eql 28 28 (.tmp 24) (.tmp 30) rfl (mc X) (mc Y) _ rfl rfl W (by kernel_rfl) (Heq.out W)) hS4 ?_; (intro K hK; go_simp; refine hK _ ?_; clear hK K)
            (refine hK_take 13 (.bool (decide (X = Y))) rfl (by kernel_rfl) (by kernel_rfl) (by kernel_rfl) (fun _ _ _ h => h) rfl (fun W _ => by go_simp) hS4 ?_; (intro K hK; go_simp; refine hK _ ?_; clear hK K))
            (refine hK_take 14 (.int .i64 0) rfl (by kernel_rfl) (by kernel_rfl) (by kernel_rfl) (fun _ _ _ h => h) rfl (fun W _ => by go_simp) hS4 ?_; (intro K hK; go_simp; refine hK _ ?_; clear hK K))
            refine wpAnyH_done (by kernel_rfl) ?_ _
            have hbE := hS4.2.2
            clear hS4
            go_wp2
            go_ret2
            exact ⟨by rw [HB.out, HT.out]; try rfl, hbE⟩
      · go_simp
        have hal5 : Below W1.heap.size W1 (W1.alloc (.cells #[.pointer (some ⟨(w.heap.size + 1), 0, none⟩), .int .i64 (rn : Int)] 57)) := (Below.refl _ _).alloc (Nat.le_refl _) _
        have hS5 : Blk (W1.alloc (.cells #[.pointer (some ⟨(w.heap.size + 1), 0, none⟩), .int .i64 (rn : Int)] 57)) w.heap.size (mc M) 28 ∧ Blk (W1.alloc (.cells #[.pointer (some ⟨(w.heap.size + 1), 0, none⟩), .int .i64 (rn : Int)] 57)) (w.heap.size + 1) (mc J) 28 ∧ Below w.heap.size w (W1.alloc (.cells #[.pointer (some ⟨(w.heap.size + 1), 0, none⟩), .int .i64 (rn : Int)] 57)) := ⟨hS1.1.keptAll hal5, hS1.2.1.keptAll hal5, below_step hS1.2.2 hal5⟩
        have hGB_5 : Blk (W1.alloc (.cells #[.pointer (some ⟨(w.heap.size + 1), 0, none⟩), .int .i64 (rn : Int)] 57)) W1.heap.size #[.pointer (some ⟨(w.heap.size + 1), 0, none⟩), .int .i64 (rn : Int)] 57 := Blk.new _ _ _
        have hGA_5 := hGA_1.alloc (.cells #[.pointer (some ⟨(w.heap.size + 1), 0, none⟩), .int .i64 (rn : Int)] 57)
        refine hK.out _ _ hS5 (fun hT5 => ?_)
        clear hK K hal5 hT5
        generalize (W1.alloc (.cells #[.pointer (some ⟨(w.heap.size + 1), 0, none⟩), .int .i64 (rn : Int)] 57)) = W5 at *
        generalize W1.heap.size = gB at *
        refine wpAnyH_ready (rs := [5]) (by kernel_rfl) (by simp) ?_
        refine AllReadyH.cons rfl (fun K hK => ?_) AllReadyH.nil
        · go_simp
          refine (HPM.out W5 gA hGA_5 hS5.1 hS5.2.1).mono ?_
          rintro e W6 ⟨rfl, hc6⟩
          have hS6 : Blk W6 w.heap.size (mc M) 28 ∧ Blk W6 (w.heap.size + 1) (mc J) 28 ∧ Below w.heap.size w W6 := ⟨hS5.1.keptAll hc6, hS5.2.1.keptAll hc6, below_step hS5.2.2 hc6⟩
          have hGB_6 := hGB_5.keptAll hc6
          go_simp
          refine hK.out _ _ hS6 (fun hT6 => ?_)
          clear hK K hc6 hT6
          refine wpAnyH_ready (rs := [11]) (by kernel_rfl) (by simp) ?_
          refine AllReadyH.cons rfl (fun K hK => ?_) AllReadyH.nil
          · go_simp
            refine (HPJ.out W6 gB hGB_6 hS6.1 hS6.2.1).mono ?_
            rintro e W7 ⟨rfl, hc7⟩
            have hS7 : Blk W7 w.heap.size (mc M) 28 ∧ Blk W7 (w.heap.size + 1) (mc J) 28 ∧ Below w.heap.size w W7 := ⟨hS6.1.keptAll hc7, hS6.2.1.keptAll hc7, below_step hS6.2.2 hc7⟩
            go_simp
            refine hK.out _ _ hS7 (fun hT7 => ?_)
            clear hK K hc7 hT7
            refine hK_take 12 (.bool (decide (X = Y))) rfl (by kernel_rfl) (by kernel_rfl) (by kernel_rfl) (fun _ _ _ h => h) rfl (fun W _ => exec_eql 28 28 (.tmp 24) (.tmp 30) rfl (mc X) (mc Y) _ rfl rfl W (by kernel_rfl) (Heq.out W)) hS7 ?_; (intro K hK; go_simp; refine hK _ ?_; clear hK K)
            (refine hK_take 13 (.bool (decide (X = Y))) rfl (by kernel_rfl) (by kernel_rfl) (by kernel_rfl) (fun _ _ _ h => h) rfl (fun W _ => by go_simp) hS7 ?_; (intro K hK; go_simp; refine hK _ ?_; clear hK K))
            (refine hK_take 14 (.int .i64 0) rfl (by kernel_rfl) (by kernel_rfl) (by kernel_rfl) (fun _ _ _ h => h) rfl (fun W _ => by go_simp) hS7 ?_; (intro K hK; go_simp; refine hK _ ?_; clear hK K))
            refine wpAnyH_done (by kernel_rfl) ?_ _
            have hbE := hS7.2.2
            clear hS7
            go_wp2
            go_ret2
            exact ⟨by rw [HB.out, HT.out]; try rfl, hbE⟩
    · go_simp
      have hal8 : Below wd.heap.size wd (wd.alloc (.cells #[.pointer (some ⟨(w.heap.size + 1), 0, none⟩), .int .i64 (rn : Int)] 57)) := (Below.refl _ _).alloc (Nat.le_refl _) _
      have hS8 : Blk (wd.alloc (.cells #[.pointer (some ⟨(w.heap.size + 1), 0, none⟩), .int .i64 (rn : Int)] 57)) w.heap.size (mc M) 28 ∧ Blk (wd.alloc (.cells #[.pointer (some ⟨(w.heap.size + 1), 0, none⟩), .int .i64 (rn : Int)] 57)) (w.heap.size + 1) (mc J) 28 ∧ Below w.heap.size w (wd.alloc (.cells #[.pointer (some ⟨(w.heap.size + 1), 0, none⟩), .int .i64 (rn : Int)] 57)) := ⟨hS0.1.keptAll hal8, hS0.2.1.keptAll hal8, below_step hS0.2.2 hal8⟩
      have hGB_8 : Blk (wd.alloc (.cells #[.pointer (some ⟨(w.heap.size + 1), 0, none⟩), .int .i64 (rn : Int)] 57)) wd.heap.size #[.pointer (some ⟨(w.heap.size + 1), 0, none⟩), .int .i64 (rn : Int)] 57 := Blk.new _ _ _
      refine hK.out _ _ hS8 (fun hT8 => ?_)
      clear hK K hal8 hT8
      generalize (wd.alloc (.cells #[.pointer (some ⟨(w.heap.size + 1), 0, none⟩), .int .i64 (rn : Int)] 57)) = W8 at *
      generalize wd.heap.size = gB at *
      refine wpAnyH_ready (rs := [4]) (by kernel_rfl) (by simp) ?_
      refine AllReadyH.cons rfl (fun K hK => ?_) AllReadyH.nil
      · go_simp
        have hal9 : Below W8.heap.size W8 (W8.alloc (.cells #[.pointer (some ⟨w.heap.size, 0, none⟩), .int .i64 (qn : Int)] 57)) := (Below.refl _ _).alloc (Nat.le_refl _) _
        have hS9 : Blk (W8.alloc (.cells #[.pointer (some ⟨w.heap.size, 0, none⟩), .int .i64 (qn : Int)] 57)) w.heap.size (mc M) 28 ∧ Blk (W8.alloc (.cells #[.pointer (some ⟨w.heap.size, 0, none⟩), .int .i64 (qn : Int)] 57)) (w.heap.size + 1) (mc J) 28 ∧ Below w.heap.size w (W8.alloc (.cells #[.pointer (some ⟨w.heap.size, 0, none⟩), .int .i64 (qn : Int)] 57)) := ⟨hS8.1.keptAll hal9, hS8.2.1.keptAll hal9, below_step hS8.2.2 hal9⟩
        have hGA_9 : Blk (W8.alloc (.cells #[.pointer (some ⟨w.heap.size, 0, none⟩), .int .i64 (qn : Int)] 57)) W8.heap.size #[.pointer (some ⟨w.heap.size, 0, none⟩), .int .i64 (qn : Int)] 57 := Blk.new _ _ _
        have hGB_9 := hGB_8.alloc (.cells #[.pointer (some ⟨w.heap.size, 0, none⟩), .int .i64 (qn : Int)] 57)
        refine hK.out _ _ hS9 (fun hT9 => ?_)
        clear hK K hal9 hT9
        generalize (W8.alloc (.cells #[.pointer (some ⟨w.heap.size, 0, none⟩), .int .i64 (qn : Int)] 57)) = W9 at *
        generalize W8.heap.size = gA at *
        refine wpAnyH_ready (rs := [5]) (by kernel_rfl) (by simp) ?_
        refine AllReadyH.cons rfl (fun K hK => ?_) AllReadyH.nil
        · go_simp
          refine (HPM.out W9 gA hGA_9 hS9.1 hS9.2.1).mono ?_
          rintro e W10 ⟨rfl, hc10⟩
          have hS10 : Blk W10 w.heap.size (mc M) 28 ∧ Blk W10 (w.heap.size + 1) (mc J) 28 ∧ Below w.heap.size w W10 := ⟨hS9.1.keptAll hc10, hS9.2.1.keptAll hc10, below_step hS9.2.2 hc10⟩
          have hGB_10 := hGB_9.keptAll hc10
          go_simp
          refine hK.out _ _ hS10 (fun hT10 => ?_)
          clear hK K hc10 hT10
          refine wpAnyH_ready (rs := [11]) (by kernel_rfl) (by simp) ?_
          refine AllReadyH.cons rfl (fun K hK => ?_) AllReadyH.nil
          · go_simp
            refine (HPJ.out W10 gB hGB_10 hS10.1 hS10.2.1).mono ?_
            rintro e W11 ⟨rfl, hc11⟩
            have hS11 : Blk W11 w.heap.size (mc M) 28 ∧ Blk W11 (w.heap.size + 1) (mc J) 28 ∧ Below w.heap.size w W11 := ⟨hS10.1.keptAll hc11, hS10.2.1.keptAll hc11, below_step hS10.2.2 hc11⟩
            go_simp
            refine hK.out _ _ hS11 (fun hT11 => ?_)
            clear hK K hc11 hT11
            refine hK_take 12 (.bool (decide (X = Y))) rfl (by kernel_rfl) (by kernel_rfl) (by kernel_rfl) (fun _ _ _ h => h) rfl (fun W _ => exec_eql 28 28 (.tmp 24) (.tmp 30) rfl (mc X) (mc Y) _ rfl rfl W (by kernel_rfl) (Heq.out W)) hS11 ?_; (intro K hK; go_simp; refine hK _ ?_; clear hK K)
            (refine hK_take 13 (.bool (decide (X = Y))) rfl (by kernel_rfl) (by kernel_rfl) (by kernel_rfl) (fun _ _ _ h => h) rfl (fun W _ => by go_simp) hS11 ?_; (intro K hK; go_simp; refine hK _ ?_; clear hK K))
            (refine hK_take 14 (.int .i64 0) rfl (by kernel_rfl) (by kernel_rfl) (by kernel_rfl) (fun _ _ _ h => h) rfl (fun W _ => by go_simp) hS11 ?_; (intro K hK; go_simp; refine hK _ ?_; clear hK K))
            refine wpAnyH_done (by kernel_rfl) ?_ _
            have hbE := hS11.2.2
            clear hS11
            go_wp2
            go_ret2
            exact ⟨by rw [HB.out, HT.out]; try rfl, hbE⟩
  · have HB := Lib.hid (acB_no h0)
    have hne : (twoC M q J r == 0) = false := by simpa using h0
    have hne2 : (twoC M q J r != 0) = true := by simpa using h0
    clear h0
    go_enter Try.func26, Try.ntmps26
    go_wp2_with (first | (with_reducible show wpList _ _ _ _ _ _; refine wpList_load_blk rfl 28 (.tmp 4) rfl w.heap.size 0 rfl (mc M) _ hM0 98 F2.out _ Try.underlying28 rfl size_mach ?_; rw [F1.out]) | (with_reducible show wpList _ _ _ _ _ _; refine wpList_load_blk rfl 28 (.tmp 6) rfl (w.heap.size + 1) 0 rfl (mc J) _ hJ0 98 G2.out _ Try.underlying28 rfl size_mach ?_; rw [G1.out]) | (go_at_call 47; refine (checkStates_calls M J hok hoj q r _).mono ?_; rintro e w1 ⟨rfl, hc1⟩; have hM1 := hM0.keptAll hc1; have hJ1 := hJ0.keptAll hc1; have hb1 := below_step hb0 hc1))
    go_ret2
    exact ⟨by rw [HB.out]; try rfl, hb1⟩
end Go.Proofs.Ytkkooafjpancoaa

namespace Go.Proofs.Ytkkooafjpancoaa
open Go.RowKit

set_option linter.unusedVariables false in
set_option maxRecDepth 100000 in
set_option maxHeartbeats 4000000 in
theorem lawAreEqualAcross (M : Mach) (hok : M.Ok) (k1 : Int) (hk1 : (Lit.int .i64 k1).wf = true) (J : Mach) (hoj : J.Ok) (k3 : Int) (hk3 : (Lit.int .i64 k3).wf = true) (w : World) :
    Calls Try.prog 8 #[.agg (mc M), .int .i64 k1, .agg (mc J), .int .i64 k3] w fun e w' => e = .returned (.bool true) ∧ Below w.heap.size w w' := by
  have F1 : Hid (cut (mc M) 0 98 = mc M) := Lib.hid (cut_all _ _ (mc_size hok))
  have F2 : Hid (0 + 98 ≤ (mc M).size) := Lib.hid (by rw [mc_size hok]; omega)
  have G1 : Hid (cut (mc J) 0 98 = mc J) := Lib.hid (cut_all _ _ (mc_size hoj))
  have G2 : Hid (0 + 98 ≤ (mc J).size) := Lib.hid (by rw [mc_size hoj]; omega)
  have hM0 : Blk ((w.alloc (.cells (mc M) 25)).alloc (.cells (mc J) 25)) w.heap.size (mc M) 25 := (Blk.new w _ _).alloc _
  have hJ0 : Blk ((w.alloc (.cells (mc M) 25)).alloc (.cells (mc J) 25)) (w.heap.size + 1) (mc J) 25 := Blk.new_at _ _ _ _ (by simp)
  have hb0 : Below w.heap.size w ((w.alloc (.cells (mc M) 25)).alloc (.cells (mc J) 25)) := by (repeat (first | exact Below.refl _ _ | refine below_drew' ?_ | refine below_drewN' ?_ _ | refine below_alloc' ?_ _ | refine below_set' ?_ (by (try simp); (try omega)) _ | refine below_step ?_ (by assumption)))
  have HtM := Lib.hid (fun W => toMachine_calls M hok W)
  have HtJ := Lib.hid (fun W => toMachine_calls J hoj W)
  have HS := Lib.hid (fun W => sAreEqualAcross_calls M hok k1 J hoj k3 W)
  have HI := Lib.hid (fun W => iAreEqualAcross_calls M hok k1 J hoj k3 W)
  generalize acB M k1 J k3 = b at *
  generalize twoC M k1 J k3 = c at *
  go_enter Try.func8, Try.ntmps8
  go_wp2_with fail
  refine wp_region_quiet (C := fun W => Blk W w.heap.size (mc M) 25 ∧ Blk W (w.heap.size + 1) (mc J) 25 ∧ Below w.heap.size w W) (by kernel_rfl) (by kernel_rfl) ⟨hM0.drew, hJ0.drew, below_drew' hb0⟩ ?_
  refine wpK_load rfl 25 _ rfl w.heap.size 0 rfl (mc M) _ (fun W hW => hW.1) 98 F2.out _ Try.underlying25 rfl size_lmach _ F1.out ?_; (intro K hK; go_simp; refine hK _ ?_; clear hK K)
  refine wpK_call rfl 14 #[.agg (mc M)] (.agg (mc M)) (fun W => by go_simp) (fun W hW => (HtM.out W).mono fun e w'' h => ⟨h.1, hW.1.keptAll h.2, hW.2.1.keptAll h.2, below_step hW.2.2 h.2⟩) ?_; (intro K hK; go_simp; refine hK _ ?_; clear hK K)
  refine wpK_val rfl (.int .i64 k1) (fun W _ => by go_simp) ?_; (intro K hK; go_simp; refine hK _ ?_; clear hK K)
  refine wpK_load rfl 25 _ rfl (w.heap.size + 1) 0 rfl (mc J) _ (fun W hW => hW.2.1) 98 G2.out _ Try.underlying25 rfl size_lmach _ G1.out ?_; (intro K hK; go_simp; refine hK _ ?_; clear hK K)
  refine wpK_call rfl 14 #[.agg (mc J)] (.agg (mc J)) (fun W => by go_simp) (fun W hW => (HtJ.out W).mono fun e w'' h => ⟨h.1, hW.1.keptAll h.2, hW.2.1.keptAll h.2, below_step hW.2.2 h.2⟩) ?_; (intro K hK; go_simp; refine hK _ ?_; clear hK K)
  refine wpK_val rfl (.int .i64 k3) (fun W _ => by go_simp) ?_; (intro K hK; go_simp; refine hK _ ?_; clear hK K)
  refine wpK_call rfl 25 #[.agg (mc M), .int .i64 k1, .agg (mc J), .int .i64 k3] (.tuple #[.bool b, .int .i64 c]) (fun W => by go_simp) (fun W hW => (HS.out W).mono fun e w'' h => ⟨h.1, hW.1.keptAll h.2, hW.2.1.keptAll h.2, below_step hW.2.2 h.2⟩) ?_; (intro K hK; go_simp; refine hK _ ?_; clear hK K)
  refine wpK_val rfl (.tuple #[.bool b, .int .i64 c]) (fun W _ => by go_simp) ?_; (intro K hK; go_simp; refine hK _ ?_; clear hK K)
  refine wpK_val rfl (.bool b) (fun W _ => by go_simp) ?_; (intro K hK; go_simp; refine hK _ ?_; clear hK K)
  refine wpK_val rfl (.int .i64 c) (fun W _ => by go_simp) ?_; (intro K hK; go_simp; refine hK _ ?_; clear hK K)
  refine wpK_val rfl (.bool b) (fun W _ => by go_simp) ?_; (intro K hK; go_simp; refine hK _ ?_; clear hK K)
  refine wpK_val rfl (.int .i64 c) (fun W _ => by go_simp) ?_; (intro K hK; go_simp; refine hK _ ?_; clear hK K)
  refine wpQuiet_nil ?_
  rintro w1 ⟨hM1, hJ1, hb1⟩
  clear hM0 hJ0 hb0
  go_wp2_with fail
  refine wp_region_quiet (C := fun W => Blk W w.heap.size (mc M) 25 ∧ Blk W (w.heap.size + 1) (mc J) 25 ∧ Below w.heap.size w W) (by kernel_rfl) (by kernel_rfl) ⟨hM1.drew, hJ1.drew, below_drew' hb1⟩ ?_
  refine wpK_load rfl 25 _ rfl w.heap.size 0 rfl (mc M) _ (fun W hW => hW.1) 98 F2.out _ Try.underlying25 rfl size_lmach _ F1.out ?_; (intro K hK; go_simp; refine hK _ ?_; clear hK K)
  refine wpK_call rfl 14 #[.agg (mc M)] (.agg (mc M)) (fun W => by go_simp) (fun W hW => (HtM.out W).mono fun e w'' h => ⟨h.1, hW.1.keptAll h.2, hW.2.1.keptAll h.2, below_step hW.2.2 h.2⟩) ?_; (intro K hK; go_simp; refine hK _ ?_; clear hK K)
  refine wpK_val rfl (.int .i64 k1) (fun W _ => by go_simp) ?_; (intro K hK; go_simp; refine hK _ ?_; clear hK K)
  refine wpK_load rfl 25 _ rfl (w.heap.size + 1) 0 rfl (mc J) _ (fun W hW => hW.2.1) 98 G2.out _ Try.underlying25 rfl size_lmach _ G1.out ?_; (intro K hK; go_simp; refine hK _ ?_; clear hK K)
  refine wpK_call rfl 14 #[.agg (mc J)] (.agg (mc J)) (fun W => by go_simp) (fun W hW => (HtJ.out W).mono fun e w'' h => ⟨h.1, hW.1.keptAll h.2, hW.2.1.keptAll h.2, below_step hW.2.2 h.2⟩) ?_; (intro K hK; go_simp; refine hK _ ?_; clear hK K)
  refine wpK_val rfl (.int .i64 k3) (fun W _ => by go_simp) ?_; (intro K hK; go_simp; refine hK _ ?_; clear hK K)
  refine wpK_call rfl 26 #[.agg (mc M), .int .i64 k1, .agg (mc J), .int .i64 k3] (.tuple #[.bool b, .int .i64 c]) (fun W => by go_simp) (fun W hW => (HI.out W).mono fun e w'' h => ⟨h.1, hW.1.keptAll h.2, hW.2.1.keptAll h.2, below_step hW.2.2 h.2⟩) ?_; (intro K hK; go_simp; refine hK _ ?_; clear hK K)
  refine wpK_val rfl (.tuple #[.bool b, .int .i64 c]) (fun W _ => by go_simp) ?_; (intro K hK; go_simp; refine hK _ ?_; clear hK K)
  refine wpK_val rfl (.bool b) (fun W _ => by go_simp) ?_; (intro K hK; go_simp; refine hK _ ?_; clear hK K)
  refine wpK_val rfl (.int .i64 c) (fun W _ => by go_simp) ?_; (intro K hK; go_simp; refine hK _ ?_; clear hK K)
  refine wpK_val rfl (.bool b) (fun W _ => by go_simp) ?_; (intro K hK; go_simp; refine hK _ ?_; clear hK K)
  refine wpK_val rfl (.int .i64 c) (fun W _ => by go_simp) ?_; (intro K hK; go_simp; refine hK _ ?_; clear hK K)
  refine wpQuiet_nil ?_
  rintro w2 ⟨hM2, hJ2, hb2⟩
  clear hM1 hJ1 hb1
  go_wp2
  go_ret
  exact ⟨rfl, hb2⟩
end Go.Proofs.Ytkkooafjpancoaa
