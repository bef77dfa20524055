/- 'ProductOfStates': the program and the model. Written by gen/genpd.py. -/
import Derived.Test.YtkkooafjpancoaaPdD
namespace Go.Proofs.Ytkkooafjpancoaa
open Go.RowKit

theorem run_fn (f : FuncId) (fn : Func) (hf : Try.prog.funcs[f]? = some fn) (hn : (fn.name == "runtime.NumGoroutine") = false) (hb : fn.body.isNone = false) (args : Array Value) (w : World) : (callFunc f args).run Try.prog w = .ok (.enter f args) w := by
  have h1 : ¬ fn.name = "runtime.NumGoroutine" := by simpa using hn
  have h2 : ¬ fn.body = none := fun e => by simp [e] at hb
  simp [callFunc, hf, h1, h2]

set_option maxRecDepth 100000 in
set_option maxHeartbeats 4000000 in
theorem iProductOfStates_calls (M : Mach) (hok : M.Ok) (q : Int) (J : Mach) (hoj : J.Ok) (r : Int) (w : World) :
    Calls Try.prog 22 #[.agg (mc M), .int .i64 q, .agg (mc J), .int .i64 r] w fun e w' => e = .returned (.tuple #[.agg (mc (prR M q J r)), .int .i64 (prC M q J r)]) ∧ Below w.heap.size w w' := by
  have hz := zero_mach
  have F1 : Hid (cut (mc M) 0 98 = mc M) := Lib.hid (cut_all _ _ (mc_size hok))
  have F2 : Hid (0 + 98 ≤ (mc M).size) := Lib.hid (by rw [mc_size hok]; omega)
  have G1 : Hid (cut (mc J) 0 98 = mc J) := Lib.hid (cut_all _ _ (mc_size hoj))
  have G2 : Hid (0 + 98 ≤ (mc J).size) := Lib.hid (by rw [mc_size hoj]; omega)
  have HzS : Hid ((mc zeroM).size = 98) := Lib.hid (mc_size zeroM_ok)
  have hmf : ∀ (fn : Fn) (first cap : Array Value) (w : World), (Instr.makeFunc fn first cap).run Try.prog w = .ok (.func fn first cap) w := fun _ _ _ _ => rfl
  have hM0 : Blk (((((w.alloc (.cells (mc M) 28)).alloc (.cells #[.int .i64 q] 2)).alloc (.cells (mc J) 28)).alloc (.cells #[.int .i64 r] 2)).alloc (.cells (mc zeroM) 28)) w.heap.size (mc M) 28 := ((((Blk.new w _ _).alloc _).alloc _).alloc _).alloc _
  have hQ0 : Blk (((((w.alloc (.cells (mc M) 28)).alloc (.cells #[.int .i64 q] 2)).alloc (.cells (mc J) 28)).alloc (.cells #[.int .i64 r] 2)).alloc (.cells (mc zeroM) 28)) (w.heap.size + 1) #[.int .i64 q] 2 := (((Blk.new_at _ _ _ _ (by simp)).alloc _).alloc _).alloc _
  have hJ0 : Blk (((((w.alloc (.cells (mc M) 28)).alloc (.cells #[.int .i64 q] 2)).alloc (.cells (mc J) 28)).alloc (.cells #[.int .i64 r] 2)).alloc (.cells (mc zeroM) 28)) (w.heap.size + 1 + 1) (mc J) 28 := ((Blk.new_at _ _ _ _ (by simp)).alloc _).alloc _
  have hR0 : Blk (((((w.alloc (.cells (mc M) 28)).alloc (.cells #[.int .i64 q] 2)).alloc (.cells (mc J) 28)).alloc (.cells #[.int .i64 r] 2)).alloc (.cells (mc zeroM) 28)) (w.heap.size + 1 + 1 + 1) #[.int .i64 r] 2 := (Blk.new_at _ _ _ _ (by simp)).alloc _
  have hX0 : Blk (((((w.alloc (.cells (mc M) 28)).alloc (.cells #[.int .i64 q] 2)).alloc (.cells (mc J) 28)).alloc (.cells #[.int .i64 r] 2)).alloc (.cells (mc zeroM) 28)) (w.heap.size + 1 + 1 + 1 + 1) (mc zeroM) 28 := Blk.new_at _ _ _ _ (by simp)
  have hb0 : Below w.heap.size w (((((w.alloc (.cells (mc M) 28)).alloc (.cells #[.int .i64 q] 2)).alloc (.cells (mc J) 28)).alloc (.cells #[.int .i64 r] 2)).alloc (.cells (mc zeroM) 28)) := by show Below _ _ (World.alloc _ _); (repeat (first | exact Below.refl _ _ | refine below_drew' ?_ | refine below_drewN' ?_ _ | refine below_alloc' ?_ _ | refine below_set' ?_ (by (try simp); (try omega)) _ | refine below_step ?_ (by assumption)))
  have cQ : ((((((w.alloc (.cells (mc M) 28)).alloc (.cells #[.int .i64 q] 2)).alloc (.cells (mc J) 28)).alloc (.cells #[.int .i64 r] 2)).alloc (.cells (mc zeroM) 28))).cell? ⟨w.heap.size + 1, 0, none⟩ = some (.int .i64 q) := hQ0.cell 0
  have cR : ((((((w.alloc (.cells (mc M) 28)).alloc (.cells #[.int .i64 q] 2)).alloc (.cells (mc J) 28)).alloc (.cells #[.int .i64 r] 2)).alloc (.cells (mc zeroM) 28))).cell? ⟨w.heap.size + 1 + 1 + 1, 0, none⟩ = some (.int .i64 r) := hR0.cell 0
  by_cases h0 : twoC M q J r = 0
  · obtain ⟨L, S, T, qn, rn, hgM, hgJ, rfl, rfl, hq, hr⟩ := two_good hok hoj h0
    obtain ⟨e1, e2⟩ := pd_eq hgM hgJ qn rn
    have hcf : ∀ (bm bq bj br : Nat) (w : World), (callFunc 49 #[.pointer (some ⟨bm, 0, none⟩), .pointer (some ⟨bq, 0, none⟩), .pointer (some ⟨bj, 0, none⟩), .pointer (some ⟨br, 0, none⟩)]).run Try.prog w = .ok (.enter 49 #[.pointer (some ⟨bm, 0, none⟩), .pointer (some ⟨bq, 0, none⟩), .pointer (some ⟨bj, 0, none⟩), .pointer (some ⟨br, 0, none⟩)]) w := fun _ _ _ _ _ => run_fn _ _ Try.func49 (by kernel_rfl) (by kernel_rfl) _ _
    have HCh := Lib.hid (fun W => checkStates_calls M J hok hoj qn rn W)
    rw [h0] at HCh
    cases hB : ltB (prA M J T) L (qn * T + rn)
    · have HRR : Hid (prR M qn J rn = zeroM) := Lib.hid (by unfold prR; rw [if_pos h0, e1]; exact (ltB_no hB).2)
      have HCC : Hid (prC M qn J rn = 3) := Lib.hid (by unfold prC; rw [if_pos h0, e2, hB]; rfl)
      have HD : Hid (∀ W, Blk W w.heap.size (mc M) 28 → Blk W (w.heap.size + 1) #[.int .i64 (qn : Int)] 2 → Blk W (w.heap.size + 1 + 1) (mc J) 28 → Blk W (w.heap.size + 1 + 1 + 1) #[.int .i64 (rn : Int)] 2 → Calls Try.prog 48 #[.func (.func 49) #[] #[.pointer (some ⟨w.heap.size, 0, none⟩), .pointer (some ⟨w.heap.size + 1, 0, none⟩), .pointer (some ⟨w.heap.size + 1 + 1, 0, none⟩), .pointer (some ⟨w.heap.size + 1 + 1 + 1, 0, none⟩)]] W fun e w' => e = .returned (.tuple #[.agg (mc zeroM), .int .i64 3]) ∧ Below W.heap.size W w') := Lib.hid (fun W h1 h2 h3 h4 => by
        have hal : Below W.heap.size W ((W.alloc (.cells (mc zeroM) 28)).alloc (.cells #[.int .i64 0] 2)) := by show Below _ _ (World.alloc _ _); (repeat (first | exact Below.refl _ _ | refine below_drew' ?_ | refine below_drewN' ?_ _ | refine below_alloc' ?_ _ | refine below_set' ?_ (by (try simp); (try omega)) _ | refine below_step ?_ (by assumption)))
        refine doorM_up _ _ W 3 (hcf _ _ _ _) ((prClosure_up M J L S T hgM hgJ qn rn hq hr hB _ _ _ _ _ (h1.keptAll hal) (h2.keptAll hal) (h3.keptAll hal) (h4.keptAll hal)).mono fun e w' h => ⟨h.1, ?_⟩)
        have h5 := h.2
        rwa [show ((W.alloc (.cells (mc zeroM) 28)).alloc (.cells #[.int .i64 0] 2)).heap.size = W.heap.size + 1 + 1 by simp] at h5)
      clear h0 hgM hgJ e1 e2 hB hcf
      go_enter Try.func22, Try.ntmps22
      go_wp2_with (first | (with_reducible show wpList _ _ _ _ _ _; refine wpList_load_blk rfl 28 (.tmp 4) rfl w.heap.size 0 rfl (mc M) _ (by first | exact hM0) 98 F2.out _ Try.underlying28 rfl size_mach ?_; rw [F1.out]) | (with_reducible show wpList _ _ _ _ _ _; refine wpList_load_blk rfl 28 (.tmp 6) rfl (w.heap.size + 1 + 1) 0 rfl (mc J) _ (by first | exact hJ0) 98 G2.out _ Try.underlying28 rfl size_mach ?_; rw [G1.out]) | (go_at_call 47; refine (HCh.out _).mono ?_; rintro e w1 ⟨rfl, hc1⟩; have hM1 := hM0.keptAll hc1; have hQ1 := hQ0.keptAll hc1; have hJ1 := hJ0.keptAll hc1; have hR1 := hR0.keptAll hc1; have hX1 := hX0.keptAll hc1; have hb1 := below_step hb0 hc1) | (go_at_call 48; refine (HD.out _ hM1 hQ1 hJ1 hR1).mono ?_; rintro e w2 ⟨rfl, hc2⟩; have hX2 := hX1.keptAll hc2; have hb2 := below_step hb1 hc2) | ((with_reducible show wpList _ _ _ _ _ _); refine wpList_store_blk rfl 28 (.tmp 8) (.tmp 22) rfl (w.heap.size + 1 + 1 + 1 + 1) 0 (mc zeroM) rfl rfl (mc zeroM) 28 hX2 (by first | (rw [HzS.out, HzS.out]; omega) | (rw [HzS.out]; omega)) (by rw [HzS.out]; exact size_mach) (mc_one _) ?_; intro w3 hXw3 hkeep _ hbl; rw [zero_over] at hXw3; have hbw3 := hbl w.heap.size w (by omega) hb2; clear hkeep hbl))
      exact bodyPost_cell1 rfl rfl hXw3 Try.underlying28 rfl (by rw [HzS.out]; exact size_mach) rfl ⟨by rw [HRR.out, HCC.out]; rfl, hbw3⟩
    · have HRR : Hid (prR M qn J rn = ltR (prA M J T) L (qn * T + rn)) := Lib.hid (by unfold prR; rw [if_pos h0, e1])
      have HCC : Hid (prC M qn J rn = 0) := Lib.hid (by unfold prC; rw [if_pos h0, e2, hB]; rfl)
      have hRs := ltR_size hgM hgJ hq hr
      have HD : Hid (∀ W, Blk W w.heap.size (mc M) 28 → Blk W (w.heap.size + 1) #[.int .i64 (qn : Int)] 2 → Blk W (w.heap.size + 1 + 1) (mc J) 28 → Blk W (w.heap.size + 1 + 1 + 1) #[.int .i64 (rn : Int)] 2 → Calls Try.prog 48 #[.func (.func 49) #[] #[.pointer (some ⟨w.heap.size, 0, none⟩), .pointer (some ⟨w.heap.size + 1, 0, none⟩), .pointer (some ⟨w.heap.size + 1 + 1, 0, none⟩), .pointer (some ⟨w.heap.size + 1 + 1 + 1, 0, none⟩)]] W fun e w' => e = .returned (.tuple #[.agg (mc (ltR (prA M J T) L (qn * T + rn))), .int .i64 0]) ∧ Below W.heap.size W w') := Lib.hid (fun W h1 h2 h3 h4 => by
        have hal : Below W.heap.size W ((W.alloc (.cells (mc zeroM) 28)).alloc (.cells #[.int .i64 0] 2)) := by show Below _ _ (World.alloc _ _); (repeat (first | exact Below.refl _ _ | refine below_drew' ?_ | refine below_drewN' ?_ _ | refine below_alloc' ?_ _ | refine below_set' ?_ (by (try simp); (try omega)) _ | refine below_step ?_ (by assumption)))
        refine doorM_ok _ _ W _ hRs (hcf _ _ _ _) ((prClosure_ok M J L S T hgM hgJ qn rn hq hr hB _ _ _ _ _ (h1.keptAll hal) (h2.keptAll hal) (h3.keptAll hal) (h4.keptAll hal)).mono fun e w' h => ⟨h.1, ?_⟩)
        have h5 := h.2
        rwa [show ((W.alloc (.cells (mc zeroM) 28)).alloc (.cells #[.int .i64 0] 2)).heap.size = W.heap.size + 1 + 1 by simp] at h5)
      have HRs := Lib.hid hRs
      clear h0 hgM hgJ e1 e2 hB hRs hcf
      generalize ltR (prA M J T) L (qn * T + rn) = R at *
      have Hov : Hid (over (mc zeroM) 0 (mc R) = mc R) := Lib.hid (over_all _ _ (by rw [HRs.out, HzS.out]))
      go_enter Try.func22, Try.ntmps22
      go_wp2_with (first | (with_reducible show wpList _ _ _ _ _ _; refine wpList_load_blk rfl 28 (.tmp 4) rfl w.heap.size 0 rfl (mc M) _ (by first | exact hM0) 98 F2.out _ Try.underlying28 rfl size_mach ?_; rw [F1.out]) | (with_reducible show wpList _ _ _ _ _ _; refine wpList_load_blk rfl 28 (.tmp 6) rfl (w.heap.size + 1 + 1) 0 rfl (mc J) _ (by first | exact hJ0) 98 G2.out _ Try.underlying28 rfl size_mach ?_; rw [G1.out]) | (go_at_call 47; refine (HCh.out _).mono ?_; rintro e w1 ⟨rfl, hc1⟩; have hM1 := hM0.keptAll hc1; have hQ1 := hQ0.keptAll hc1; have hJ1 := hJ0.keptAll hc1; have hR1 := hR0.keptAll hc1; have hX1 := hX0.keptAll hc1; have hb1 := below_step hb0 hc1) | (go_at_call 48; refine (HD.out _ hM1 hQ1 hJ1 hR1).mono ?_; rintro e w2 ⟨rfl, hc2⟩; have hX2 := hX1.keptAll hc2; have hb2 := below_step hb1 hc2) | ((with_reducible show wpList _ _ _ _ _ _); refine wpList_store_blk rfl 28 (.tmp 8) (.tmp 22) rfl (w.heap.size + 1 + 1 + 1 + 1) 0 (mc R) rfl rfl (mc zeroM) 28 hX2 (by first | (rw [HRs.out, HzS.out]; omega) | (rw [HRs.out]; omega)) (by rw [HRs.out]; exact size_mach) (mc_one _) ?_; intro w3 hXw3 hkeep _ hbl; rw [Hov.out] at hXw3; have hbw3 := hbl w.heap.size w (by omega) hb2; clear hkeep hbl))
      exact bodyPost_cell1 rfl rfl hXw3 Try.underlying28 rfl (by rw [HRs.out]; exact size_mach) rfl ⟨by rw [HRR.out, HCC.out]; rfl, hbw3⟩
  · have HRR : Hid (prR M q J r = zeroM) := Lib.hid (by unfold prR; rw [if_neg h0])
    have HCC : Hid (prC M q J r = twoC M q J r) := Lib.hid (by unfold prC; rw [if_neg h0])
    have hne : (twoC M q J r == 0) = false := by simpa using h0
    have hne2 : (twoC M q J r != 0) = true := by simpa using h0
    clear h0
    go_enter Try.func22, Try.ntmps22
    go_wp2_with (first | (with_reducible show wpList _ _ _ _ _ _; refine wpList_load_blk rfl 28 (.tmp 4) rfl w.heap.size 0 rfl (mc M) _ (by first | exact hM0) 98 F2.out _ Try.underlying28 rfl size_mach ?_; rw [F1.out]) | (with_reducible show wpList _ _ _ _ _ _; refine wpList_load_blk rfl 28 (.tmp 6) rfl (w.heap.size + 1 + 1) 0 rfl (mc J) _ (by first | exact hJ0) 98 G2.out _ Try.underlying28 rfl size_mach ?_; rw [G1.out]) | (go_at_call 47; refine (checkStates_calls M J hok hoj q r _).mono ?_; rintro e w1 ⟨rfl, hc1⟩; have hX1 := hX0.keptAll hc1; have hb1 := below_step hb0 hc1) | ((with_reducible show wpList _ _ _ _ _ _); refine wpList_store_blk rfl 28 (.tmp 8) (.tmp 18) rfl (w.heap.size + 1 + 1 + 1 + 1) 0 (mc zeroM) rfl rfl (mc zeroM) 28 hX1 (by first | (rw [HzS.out, HzS.out]; omega) | (rw [HzS.out]; omega)) (by rw [HzS.out]; exact size_mach) (mc_one _) ?_; intro w3 hXw3 hkeep _ hbl; rw [zero_over] at hXw3; have hbw3 := hbl w.heap.size w (by omega) hb1; clear hkeep hbl))
    exact bodyPost_cell1 rfl rfl hXw3 Try.underlying28 rfl (by rw [HzS.out]; exact size_mach) rfl ⟨by rw [HRR.out, HCC.out]; rfl, hbw3⟩

set_option maxRecDepth 100000 in
set_option maxHeartbeats 4000000 in
theorem sProductOfStates_calls (M : Mach) (hok : M.Ok) (q : Int) (J : Mach) (hoj : J.Ok) (r : Int) (w : World) :
    Calls Try.prog 21 #[.agg (mc M), .int .i64 q, .agg (mc J), .int .i64 r] w fun e w' => e = .returned (.tuple #[.agg (mc (prR M q J r)), .int .i64 (prC M q J r)]) ∧ Below w.heap.size w w' := by
  have hz := zero_mach
  have F1 : Hid (cut (mc M) 0 98 = mc M) := Lib.hid (cut_all _ _ (mc_size hok))
  have F2 : Hid (0 + 98 ≤ (mc M).size) := Lib.hid (by rw [mc_size hok]; omega)
  have G1 : Hid (cut (mc J) 0 98 = mc J) := Lib.hid (cut_all _ _ (mc_size hoj))
  have G2 : Hid (0 + 98 ≤ (mc J).size) := Lib.hid (by rw [mc_size hoj]; omega)
  have HzS : Hid ((mc zeroM).size = 98) := Lib.hid (mc_size zeroM_ok)
  have hM0 : Blk (((w.alloc (.cells (mc M) 28)).alloc (.cells (mc J) 28)).alloc (.cells (mc zeroM) 28)) w.heap.size (mc M) 28 := ((Blk.new w _ _).alloc _).alloc _
  have hJ0 : Blk (((w.alloc (.cells (mc M) 28)).alloc (.cells (mc J) 28)).alloc (.cells (mc zeroM) 28)) (w.heap.size + 1) (mc J) 28 := (Blk.new_at _ _ _ _ (by simp)).alloc _
  have hX0 : Blk (((w.alloc (.cells (mc M) 28)).alloc (.cells (mc J) 28)).alloc (.cells (mc zeroM) 28)) (w.heap.size + 1 + 1) (mc zeroM) 28 := Blk.new_at _ _ _ _ (by simp)
  have hb0 : Below w.heap.size w (((w.alloc (.cells (mc M) 28)).alloc (.cells (mc J) 28)).alloc (.cells (mc zeroM) 28)) := by show Below _ _ (World.alloc _ _); (repeat (first | exact Below.refl _ _ | refine below_drew' ?_ | refine below_drewN' ?_ _ | refine below_alloc' ?_ _ | refine below_set' ?_ (by (try simp); (try omega)) _ | refine below_step ?_ (by assumption)))
  by_cases h0 : twoC M q J r = 0
  · obtain ⟨L, S, T, qn, rn, hgM, hgJ, rfl, rfl, hq, hr⟩ := two_good hok hoj h0
    obtain ⟨e1, e2⟩ := pd_eq hgM hgJ qn rn
    have HCh := Lib.hid (fun W => l07Both_calls M J hok hoj qn rn W)
    rw [h0] at HCh
    have HPr := Lib.hid (fun W => l07Product_calls M J L S T hgM hgJ qn rn hq hr W)
    have HRs := Lib.hid (ltR_size hgM hgJ hq hr)
    cases hB : ltB (prA M J T) L (qn * T + rn)
    · have HRR : Hid (prR M qn J rn = zeroM) := Lib.hid (by unfold prR; rw [if_pos h0, e1]; exact (ltB_no hB).2)
      have HCC : Hid (prC M qn J rn = 3) := Lib.hid (by unfold prC; rw [if_pos h0, e2, hB]; rfl)
      rw [hB] at HPr
      clear h0 hgM hgJ e1 e2 hB
      generalize ltR (prA M J T) L (qn * T + rn) = R at *
      have Hov : Hid (over (mc zeroM) 0 (mc R) = mc R) := Lib.hid (over_all _ _ (by rw [HRs.out, HzS.out]))
      go_enter Try.func21, Try.ntmps21
      go_wp2_with (first | (with_reducible show wpList _ _ _ _ _ _; refine wpList_load_blk rfl 28 (.tmp 4) rfl w.heap.size 0 rfl (mc M) _ (by first | exact hM1 | exact hM0) 98 F2.out _ Try.underlying28 rfl size_mach ?_; rw [F1.out]) | (with_reducible show wpList _ _ _ _ _ _; refine wpList_load_blk rfl 28 (.tmp 6) rfl (w.heap.size + 1) 0 rfl (mc J) _ (by first | exact hJ1 | exact hJ0) 98 G2.out _ Try.underlying28 rfl size_mach ?_; rw [G1.out]) | (go_at_call 45; refine (HCh.out _).mono ?_; rintro e w1 ⟨rfl, hc1⟩; have hM1 := hM0.keptAll hc1; have hJ1 := hJ0.keptAll hc1; have hX1 := hX0.keptAll hc1; have hb1 := below_step hb0 hc1) | (go_at_call 46; refine (HPr.out _).mono ?_; rintro e w2 ⟨rfl, hc2⟩; have hX2 := hX1.keptAll hc2; have hb2 := below_step hb1 hc2; have hlt2 := hX2.lt; have hge2 := hb2.size; have hX3 := hX2.alloc (.cells (mc zeroM) 28); have hY2 : Blk (w2.alloc (.cells (mc zeroM) 28)) w2.heap.size (mc zeroM) 28 := Blk.new _ _ _; have hb3 := below_alloc' hb2 (.cells (mc zeroM) 28)) | ((with_reducible show wpList _ _ _ _ _ _); refine wpList_store_blk rfl 28 (.tmp 11) (.tmp 28) rfl w2.heap.size 0 (mc R) rfl rfl (mc zeroM) 28 hY2 (by first | (rw [HRs.out, HzS.out]; omega) | (rw [HRs.out]; omega)) (by rw [HRs.out]; exact size_mach) (mc_one _) ?_; intro w4 hXw4 hkeep _ hbl; rw [Hov.out] at hXw4; have hbw4 := hbl w.heap.size w (hge2) hb3; have hX4 := hkeep (w.heap.size + 1 + 1) _ _ (by omega) hX3; clear hkeep hbl) | ((with_reducible show wpList _ _ _ _ _ _); refine wpList_store_blk rfl 28 (.tmp 8) (.tmp 32) rfl (w.heap.size + 1 + 1) 0 (mc zeroM) rfl rfl (mc zeroM) 28 hX4 (by first | (rw [HzS.out, HzS.out]; omega) | (rw [HzS.out]; omega)) (by rw [HzS.out]; exact size_mach) (mc_one _) ?_; intro w5 hXw5 hkeep _ hbl; rw [zero_over] at hXw5; have hbw5 := hbl w.heap.size w (by omega) hbw4; clear hkeep hbl))
      exact bodyPost_cell1 rfl rfl hXw5 Try.underlying28 rfl (by rw [HzS.out]; exact size_mach) rfl ⟨by rw [HRR.out, HCC.out]; rfl, hbw5⟩
    · have HRR : Hid (prR M qn J rn = ltR (prA M J T) L (qn * T + rn)) := Lib.hid (by unfold prR; rw [if_pos h0, e1])
      have HCC : Hid (prC M qn J rn = 0) := Lib.hid (by unfold prC; rw [if_pos h0, e2, hB]; rfl)
      rw [hB] at HPr
      clear h0 hgM hgJ e1 e2 hB
      generalize ltR (prA M J T) L (qn * T + rn) = R at *
      have Hov : Hid (over (mc zeroM) 0 (mc R) = mc R) := Lib.hid (over_all _ _ (by rw [HRs.out, HzS.out]))
      have Hcu : Hid (cut (mc R) 0 98 = mc R) := Lib.hid (cut_all _ _ HRs.out)
      go_enter Try.func21, Try.ntmps21
      go_wp2_with (first | (with_reducible show wpList _ _ _ _ _ _; refine wpList_load_blk rfl 28 (.tmp 4) rfl w.heap.size 0 rfl (mc M) _ (by first | exact hM1 | exact hM0) 98 F2.out _ Try.underlying28 rfl size_mach ?_; rw [F1.out]) | (with_reducible show wpList _ _ _ _ _ _; refine wpList_load_blk rfl 28 (.tmp 6) rfl (w.heap.size + 1) 0 rfl (mc J) _ (by first | exact hJ1 | exact hJ0) 98 G2.out _ Try.underlying28 rfl size_mach ?_; rw [G1.out]) | (go_at_call 45; refine (HCh.out _).mono ?_; rintro e w1 ⟨rfl, hc1⟩; have hM1 := hM0.keptAll hc1; have hJ1 := hJ0.keptAll hc1; have hX1 := hX0.keptAll hc1; have hb1 := below_step hb0 hc1) | (go_at_call 46; refine (HPr.out _).mono ?_; rintro e w2 ⟨rfl, hc2⟩; have hX2 := hX1.keptAll hc2; have hb2 := below_step hb1 hc2; have hlt2 := hX2.lt; have hge2 := hb2.size; have hX3 := hX2.alloc (.cells (mc zeroM) 28); have hY2 : Blk (w2.alloc (.cells (mc zeroM) 28)) w2.heap.size (mc zeroM) 28 := Blk.new _ _ _; have hb3 := below_alloc' hb2 (.cells (mc zeroM) 28)) | ((with_reducible show wpList _ _ _ _ _ _); refine wpList_store_blk rfl 28 (.tmp 11) (.tmp 28) rfl w2.heap.size 0 (mc R) rfl rfl (mc zeroM) 28 hY2 (by first | (rw [HRs.out, HzS.out]; omega) | (rw [HRs.out]; omega)) (by rw [HRs.out]; exact size_mach) (mc_one _) ?_; intro w4 hXw4 hkeep _ hbl; rw [Hov.out] at hXw4; have hbw4 := hbl w.heap.size w (hge2) hb3; have hX4 := hkeep (w.heap.size + 1 + 1) _ _ (by omega) hX3; clear hkeep hbl) | ((with_reducible show wpList _ _ _ _ _ _); refine wpList_load_blk rfl 28 (.tmp 11) rfl w2.heap.size 0 rfl _ _ hXw4 98 (by rw [HRs.out]; omega) _ Try.underlying28 rfl size_mach ?_; rw [Hcu.out]) | ((with_reducible show wpList _ _ _ _ _ _); refine wpList_store_blk rfl 28 (.tmp 8) (.tmp 33) rfl (w.heap.size + 1 + 1) 0 (mc R) rfl rfl (mc zeroM) 28 hX4 (by first | (rw [HRs.out, HzS.out]; omega) | (rw [HRs.out]; omega)) (by rw [HRs.out]; exact size_mach) (mc_one _) ?_; intro w5 hXw5 hkeep _ hbl; rw [Hov.out] at hXw5; have hbw5 := hbl w.heap.size w (by omega) hbw4; clear hkeep hbl))
      exact bodyPost_cell1 rfl rfl hXw5 Try.underlying28 rfl (by rw [HRs.out]; exact size_mach) rfl ⟨by rw [HRR.out, HCC.out]; rfl, hbw5⟩
  · have HRR : Hid (prR M q J r = zeroM) := Lib.hid (by unfold prR; rw [if_neg h0])
    have HCC : Hid (prC M q J r = twoC M q J r) := Lib.hid (by unfold prC; rw [if_neg h0])
    have hne : (twoC M q J r == 0) = false := by simpa using h0
    have hne2 : (twoC M q J r != 0) = true := by simpa using h0
    clear h0
    go_enter Try.func21, Try.ntmps21
    go_wp2_with (first | (with_reducible show wpList _ _ _ _ _ _; refine wpList_load_blk rfl 28 (.tmp 4) rfl w.heap.size 0 rfl (mc M) _ (by first | exact hM0) 98 F2.out _ Try.underlying28 rfl size_mach ?_; rw [F1.out]) | (with_reducible show wpList _ _ _ _ _ _; refine wpList_load_blk rfl 28 (.tmp 6) rfl (w.heap.size + 1) 0 rfl (mc J) _ (by first | exact hJ0) 98 G2.out _ Try.underlying28 rfl size_mach ?_; rw [G1.out]) | (go_at_call 45; refine (l07Both_calls M J hok hoj q r _).mono ?_; rintro e w1 ⟨rfl, hc1⟩; have hX1 := hX0.keptAll hc1; have hb1 := below_step hb0 hc1) | ((with_reducible show wpList _ _ _ _ _ _); refine wpList_store_blk rfl 28 (.tmp 8) (.tmp 20) rfl (w.heap.size + 1 + 1) 0 (mc zeroM) rfl rfl (mc zeroM) 28 hX1 (by first | (rw [HzS.out, HzS.out]; omega) | (rw [HzS.out]; omega)) (by rw [HzS.out]; exact size_mach) (mc_one _) ?_; intro w3 hXw3 hkeep _ hbl; rw [zero_over] at hXw3; have hbw3 := hbl w.heap.size w (by omega) hb1; clear hkeep hbl))
    exact bodyPost_cell1 rfl rfl hXw3 Try.underlying28 rfl (by rw [HzS.out]; exact size_mach) rfl ⟨by rw [HRR.out, HCC.out]; rfl, hbw3⟩
end Go.Proofs.Ytkkooafjpancoaa
