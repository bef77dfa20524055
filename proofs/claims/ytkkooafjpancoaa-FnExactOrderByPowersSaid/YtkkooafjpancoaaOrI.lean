/- 'OrderByPowers': the program. Written by gen/genor.py. -/
import Derived.Test.YtkkooafjpancoaaPoS
import Derived.Test.YtkkooafjpancoaaBhdN
namespace Go.Proofs.Ytkkooafjpancoaa
open Go.RowKit

section
variable {P : Program} {ops : Array Oper} {rest : List Oper} {o : Oper} {a : Act} {w : World} {Q : Exit → Act → World → Prop}
theorem wpList_eql (hgd : o.guard = none) (t t2 : TypeId) (x0 x1 : Operand) (ho : o.op = .binOp .eql t x0 x1 t2) (xs ys : Array Value) (v : Value) (h0 : a.eval x0 = .agg xs) (h1 : a.eval x1 = .agg ys) (hm : P.eqGuardType P.depth t = false) (hr : (binOp .eql t (.agg xs) (.agg ys)).run P w = .ok v w)
    (h : ∀ K : Act → Prop, (∀ a, wpList P ops Q rest a w → K a) → K (a.put o.dst v)) : wpList P ops Q (o :: rest) a w :=
  wpList_plain hgd fun _ hK => by
    unfold Oper.wp
    rw [exec_eql t t2 x0 x1 ho xs ys v h0 h1 w hm hr]
    exact hK _ _ (h _ fun _ h => h)
end
/-- The search for the least power that is trivial. -/
def ordF (M : Mach) (L S q : Nat) : Nat → Nat → Mach → Int × Int
  | 0, _, _ => (0, 4)
  | f + 1, k, P => if ltB (prA P M S) L (0 * S + q) = true then (if ltR (prA P M S) L (0 * S + q) = trivM L then ((k : Int) + 1, 0) else ordF M L S q f (k + 1) (ltR (prA P M S) L (0 * S + q))) else (0, 3)
theorem ordF_up {M : Mach} {L S q f k : Nat} {P : Mach} (h : ltB (prA P M S) L (0 * S + q) = false) : ordF M L S q (f + 1) k P = (0, 3) := by
  rw [ordF, if_neg (by rw [h]; simp)]
theorem ordF_hit {M : Mach} {L S q f k : Nat} {P : Mach} (h : ltB (prA P M S) L (0 * S + q) = true) (he : ltR (prA P M S) L (0 * S + q) = trivM L) : ordF M L S q (f + 1) k P = ((k : Int) + 1, 0) := by
  rw [ordF, if_pos h, if_pos he]
theorem ordF_on {M : Mach} {L S q f k : Nat} {P : Mach} (h : ltB (prA P M S) L (0 * S + q) = true) (he : ¬ ltR (prA P M S) L (0 * S + q) = trivM L) : ordF M L S q (f + 1) k P = ordF M L S q f (k + 1) (ltR (prA P M S) L (0 * S + q)) := by
  rw [ordF, if_pos h, if_neg he]
def ordOk (x : Int × Int) (e : Ending) : Prop := if x.2 = 0 then e = .returned (.int .i64 x.1) else e = gaveUp x.2
theorem lt_goodO {M J : Mach} {L S T q r : Nat} (hM : Good M L S) (hJ : Good J L T) (hq : q < S) (hr : r < T) (h : ltB (prA M J T) L (q * T + r) = true) : ∃ SQ, Good (ltR (prA M J T) L (q * T + r)) L SQ ∧ 0 < SQ := by
  have hidx : q * T + r < S * T := by
    calc q * T + r < q * T + T := by omega
      _ = (q + 1) * T := by rw [Nat.succ_mul]
      _ ≤ S * T := Nat.mul_le_mul_right _ (by omega)
  obtain ⟨h1, h2⟩ := ltB_yes h
  rw [h2]
  exact ⟨_, prodM_good hM hJ hidx h1, bAll_pos _ _ _⟩
def orX (M : Mach) (q n : Int) : Int × Int := if pwC M q n 1 = 0 then ordF M M.L.toNat M.S.toNat q.toNat n.toNat 0 (trivM M.L.toNat) else (0, pwC M q n 1)
theorem orX_good {M : Mach} {L S : Nat} (hg : Good M L S) {q n : Nat} (h : pwC M q n 1 = 0) : orX M q n = ordF M L S q n 0 (trivM L) := by
  unfold orX
  rw [if_pos h, hg.hL, hg.hS, Int.toNat_natCast, Int.toNat_natCast, Int.toNat_natCast, Int.toNat_natCast]
theorem pwL_st {M : Mach} {q n l : Int} (h : pwC M q n l = 0) : stC M q = 0 ∧ (l ≤ n ∧ n ≤ 16) := by
  unfold pwC at h
  unfold stC
  by_cases h1 : isMach M = true
  · by_cases h2 : inS M q = true
    · by_cases h3 : l ≤ n ∧ n ≤ 16
      · exact ⟨by simp [h1, h2], h3⟩
      · simp [h1, h2, h3] at h
    · simp [h1, h2] at h
  · simp [h1] at h
theorem pwL_two {M : Mach} {q n l : Int} (h : ¬ pwC M q n l = 0) (hs : stC M q = 0) : pwC M q n l = 2 ∧ decide (l ≤ n ∧ n ≤ 16) = false := by
  unfold stC at hs
  by_cases h1 : isMach M = true
  · by_cases h2 : inS M q = true
    · by_cases h3 : l ≤ n ∧ n ≤ 16
      · exact absurd (by unfold pwC; simp [h1, h2, h3]) h
      · exact ⟨by unfold pwC; simp [h1, h2, h3], decide_eq_false h3⟩
    · simp [h1, h2] at hs
  · simp [h1] at hs
theorem pwL_one {M : Mach} {q n l : Int} (hs : ¬ stC M q = 0) : pwC M q n l = stC M q := by
  unfold stC at hs ⊢
  unfold pwC
  by_cases h1 : isMach M = true
  · by_cases h2 : inS M q = true
    · simp [h1, h2] at hs
    · simp [h1, h2]
  · simp [h1]

set_option maxRecDepth 100000 in
set_option maxHeartbeats 800000 in
theorem orderUpTo_calls (M : Mach) (L S : Nat) (hg : Good M L S) (q : Nat) (hq : q < S) (n : Nat) (hn : n ≤ 16) (bm : Nat) (w : World) (hBm : Blk w bm (mc M) 28) :
    Calls Try.prog 61 #[.agg #[.pointer (some ⟨bm, 0, none⟩), .int .i64 (q : Int)], .int .i64 (n : Int)] w fun e w' => ordOk (ordF M L S q n 0 (trivM L)) e ∧ Below w.heap.size w w' := by
  have hz := zero_mach
  have hzg := zero_guide
  have HzS : Hid ((mc zeroM).size = 98) := Lib.hid (mc_size zeroM_ok)
  have HT := Lib.hid (trivM_good hg.L2 hg.L3)
  have HTs := Lib.hid (mc_size HT.out.ok)
  have HT1 : Hid (cut (mc (trivM L)) 0 98 = mc (trivM L)) := Lib.hid (cut_all _ _ HTs.out)
  have HTo : Hid (over (mc zeroM) 0 (mc (trivM L)) = mc (trivM L)) := Lib.hid (over_all _ _ (by rw [HTs.out, HzS.out]))
  have HtC := Lib.hid (fun W => trivialMachine_calls L hg.L3 W)
  have Hsz : Hid (∀ {P : Mach} {SP : Nat}, Good P L SP → (mc P).size = 98) := Lib.hid (fun h => mc_size h.ok)
  have HY := Lib.hid (fun P SP b6 (hP : Good P L SP) (h0P : 0 < SP) (hB : ltB (prA P M S) L (0 * S + q) = true) W (h1 : Blk W b6 (mc P) 28) (h2 : Blk W bm (mc M) 28) => times_yes hP hg b6 bm 0 q h0P hq hB W h1 h2)
  have HN := Lib.hid (fun P SP b6 (hP : Good P L SP) (h0P : 0 < SP) (hB : ltB (prA P M S) L (0 * S + q) = false) W (h1 : Blk W b6 (mc P) 28) (h2 : Blk W bm (mc M) 28) => times_no hP hg b6 bm 0 q h0P hq hB W h1 h2)
  have HG := Lib.hid (fun P SP (hP : Good P L SP) (h0P : 0 < SP) (hB : ltB (prA P M S) L (0 * S + q) = true) => lt_goodO hP hg h0P hq hB)
  have hcL := mc_L M
  rw [hg.hL] at hcL
  have HBm : Hid (∀ W, Below w.heap.size w W → Blk W bm (mc M) 28) := Lib.hid (fun W hW => hBm.keptAll hW)
  have hF0 : Blk (w.alloc (.cells #[.pointer (some ⟨bm, 0, none⟩), .int .i64 (q : Int)] 57)) w.heap.size #[.pointer (some ⟨bm, 0, none⟩), .int .i64 (q : Int)] 57 := Blk.new _ _ _
  have hb0 : Below w.heap.size w (w.alloc (.cells #[.pointer (some ⟨bm, 0, none⟩), .int .i64 (q : Int)] 57)) := by (repeat (first | exact Below.refl _ _ | refine below_drew' ?_ | refine below_drewN' ?_ _ | refine below_alloc' ?_ _ | refine below_set' ?_ (by (try simp); (try omega)) _ | refine below_step ?_ (by assumption)))
  have cL0 := ((hBm.alloc (.cells #[.pointer (some ⟨bm, 0, none⟩), .int .i64 (q : Int)] 57)).cell 0).trans hcL
  have hlb := hBm.lt
  have HX : Hid (∃ x, ordF M L S q n 0 (trivM L) = x) := Lib.hid ⟨_, rfl⟩
  obtain ⟨x, hx⟩ := HX.out
  have Hx := Lib.hid hx
  rw [hx]
  clear hx HX hg hcL
  obtain ⟨Tm, hTm⟩ : ∃ t, trivM L = t := ⟨_, rfl⟩
  rw [hTm] at HT HTs HT1 HTo HtC Hx
  have HTm := Lib.hid hTm
  clear hTm
  go_enter Try.func61, Try.ntmps61
  go_wp2_with (first | (go_at_call 66; refine (HtC.out _).mono ?_; rintro e w1 ⟨rfl, hc1⟩; have hF1 := hF0.keptAll hc1; have hb1 := below_step hb0 hc1; have hl1 := hF1.lt; have hge1 := hb1.size; have hF2 := hF1.alloc (.cells (mc zeroM) 28); have hb2 := below_alloc' hb1 (.cells (mc zeroM) 28); have hT2 : Blk (w1.alloc (.cells (mc zeroM) 28)) w1.heap.size (mc zeroM) 28 := Blk.new _ _ _) | ((with_reducible show wpList _ _ _ _ _ _); refine wpList_store_blk rfl 28 (.tmp 5) (.tmp 13) rfl w1.heap.size 0 (mc Tm) rfl rfl (mc zeroM) 28 hT2 (by first | (rw [HTs.out, HzS.out]; omega) | (rw [HTs.out]; omega)) (by rw [HTs.out]; exact size_mach) (mc_one _) ?_; intro w3 hXw3 hkeep hsz hbl; clear hsz; rw [HTo.out] at hXw3; have hbw3 := hbl w.heap.size w (hge1) hb2; have hF3 := hkeep w.heap.size _ _ (by omega) hF2; have hl3 := hXw3.lt; have hge3 := hbw3.size; have hF4 := hF3.alloc (.cells (mc zeroM) 28); have hT4 := hXw3.alloc (.cells (mc zeroM) 28); have hb4 := below_alloc' hbw3 (.cells (mc zeroM) 28); have hP4 : Blk (w3.alloc (.cells (mc zeroM) 28)) w3.heap.size (mc zeroM) 28 := Blk.new _ _ _; have hlF3 := hF3.lt; clear hkeep hbl) | (with_reducible show wpList _ _ _ _ _ _; refine wpList_load_blk rfl 28 (.tmp 5) rfl w1.heap.size 0 rfl (mc Tm) _ (by first | exact hXw3) 98 (by rw [HTs.out]; omega) _ Try.underlying28 rfl size_mach ?_; rw [HT1.out]) | ((with_reducible show wpList _ _ _ _ _ _); refine wpList_store_blk rfl 28 (.tmp 6) (.tmp 14) rfl w3.heap.size 0 (mc Tm) rfl rfl (mc zeroM) 28 hP4 (by first | (rw [HTs.out, HzS.out]; omega) | (rw [HTs.out]; omega)) (by rw [HTs.out]; exact size_mach) (mc_one _) ?_; intro w5 hXw5 hkeep hsz hbl; clear hsz; rw [HTo.out] at hXw5; have hbw5 := hbl w.heap.size w (hge3) hb4; have hF5 := hkeep w.heap.size _ _ (by omega) hF4; have hT5 := hkeep w1.heap.size _ _ (by omega) hT4; clear hkeep hbl))
  obtain ⟨g5, hg5⟩ : ∃ g, w1.heap.size = g := ⟨_, rfl⟩
  obtain ⟨g6, hg6⟩ : ∃ g, w3.heap.size = g := ⟨_, rfl⟩
  rw [hg5] at hT5 hl3 hl1 hge1 ⊢
  rw [hg6] at hXw5 hl3 hge3 hlF3 ⊢
  clear hg5 hg6
  go_loopw [16] (fun cv wr => ∃ (k : Nat) (P : Mach) (SP : Nat), k ≤ n ∧ cv = .int .i64 k ∧ Good P L SP ∧ 0 < SP ∧ ordF M L S q (n - k) k P = x ∧ Blk wr w.heap.size #[.pointer (some ⟨bm, 0, none⟩), .int .i64 (q : Int)] 57 ∧ Blk wr g5 (mc Tm) 28 ∧ Blk wr g6 (mc P) 28 ∧ Below w.heap.size w wr) (fun cv _ => n - (intOf cv).toNat)
  case atStart => exact ⟨0, Tm, 1, by omega, rfl, HT.out, by omega, Hx.out, hF5, hT5, hXw5, hbw5⟩
  case round =>
    clear hF5 hT5 hXw5 hbw5
    obtain ⟨k, P, SP, hk, rfl, hP, h0P, hor, hF, hT, hY, hbw⟩ := hrel
    have Hor := Lib.hid hor
    have HP := Lib.hid hP
    have HPs := Lib.hid (Hsz.out hP)
    clear hor hP
    have hMr := HBm.out _ hbw
    by_cases hkn : k < n
    · have hki : (k : Int) < (n : Int) := by omega
      have hf : n - k = (n - (k + 1)) + 1 := by omega
      rw [hf] at Hor
      have Hcu : Hid (cut #[.pointer (some ⟨bm, 0, none⟩), .int .i64 (q : Int)] 0 2 = #[.pointer (some ⟨bm, 0, none⟩), .int .i64 (q : Int)]) := Lib.hid (cut_all _ _ rfl)
      have hwk : IntKind.i64.wrap ((k : Int) + 1) = (k : Int) + 1 := by simp [IntKind.wrap, IntKind.bits, IntKind.signed]; omega
      clear hf
      cases hB : ltB (prA P M S) L (0 * S + q)
      · have Hc := Lib.hid (HN.out P SP g6 HP.out h0P hB wr hY hMr)
        have Hr : Hid (x = (0, 3)) := Lib.hid (by rw [← Hor.out]; exact ordF_up hB)
        clear hB
        go_wp2_with (first | ((with_reducible show wpList _ _ _ _ _ _); refine wpList_build2 rfl 57 0 1 (.tmp 6) (.const (.int .i64 0)) rfl (.pointer (some ⟨g6, 0, none⟩)) (.int .i64 0) rfl rfl _ (built_gd2 g6 0) ?_) | ((with_reducible show wpList _ _ _ _ _ _); refine wpList_load_blk rfl 57 (.tmp 2) rfl w.heap.size 0 rfl _ _ hF 2 (Nat.le_refl 2) _ Try.underlying57 rfl size_guide ?_; rw [Hcu.out]) | (go_at_call 50; refine Hc.out.mono ?_; rintro e w6 ⟨he, hc6⟩; have hb6 := below_step hbw hc6; unfold gaveUp at he; subst he))
        exact ⟨rfl, by rw [Hr.out]; exact (if_neg (by decide)).mpr rfl, hb6⟩
      · have Hc := Lib.hid (HY.out P SP g6 HP.out h0P hB wr hY hMr)
        obtain ⟨SQ, hQ, h0Q⟩ := HG.out P SP HP.out h0P hB
        have Hhit := Lib.hid (fun (he : ltR (prA P M S) L (0 * S + q) = Tm) => ordF_hit (M := M) (L := L) (S := S) (q := q) (f := n - (k + 1)) (k := k) (P := P) hB (Eq.trans he HTm.out.symm))
        have Hon := Lib.hid (fun (he : ¬ ltR (prA P M S) L (0 * S + q) = Tm) => ordF_on (M := M) (L := L) (S := S) (q := q) (f := n - (k + 1)) (k := k) (P := P) hB (fun e => he (Eq.trans e HTm.out)))
        clear hB
        generalize ltR (prA P M S) L (0 * S + q) = R at *
        have HQ := Lib.hid hQ
        have HRs := Lib.hid (Hsz.out hQ)
        have HR1 : Hid (cut (mc R) 0 98 = mc R) := Lib.hid (cut_all _ _ HRs.out)
        have HRo : Hid (over (mc P) 0 (mc R) = mc R) := Lib.hid (over_all _ _ (by rw [HRs.out, HPs.out]))
        have Heq := Lib.hid (fun W => run_eq_mach hQ.ok HT.out.ok W)
        clear hQ
        by_cases he : R = Tm
        · have Hr : Hid (x = ((k : Int) + 1, 0)) := Lib.hid (by rw [← Hor.out]; exact Hhit.out he)
          rw [decide_eq_true he] at Heq
          clear he Hhit Hon
          go_wp2_with (first | ((with_reducible show wpList _ _ _ _ _ _); refine wpList_build2 rfl 57 0 1 (.tmp 6) (.const (.int .i64 0)) rfl (.pointer (some ⟨g6, 0, none⟩)) (.int .i64 0) rfl rfl _ (built_gd2 g6 0) ?_) | ((with_reducible show wpList _ _ _ _ _ _); refine wpList_load_blk rfl 57 (.tmp 2) rfl w.heap.size 0 rfl _ _ hF 2 (Nat.le_refl 2) _ Try.underlying57 rfl size_guide ?_; rw [Hcu.out]) | (go_at_call 50; refine Hc.out.mono ?_; rintro e w6 ⟨rfl, hc6⟩; have hb6 := below_step hbw hc6; have hY6 := hY.keptAll hc6; have hT6 := hT.keptAll hc6; have hF6 := hF.keptAll hc6) | ((with_reducible show wpList _ _ _ _ _ _); refine wpList_store_blk rfl 28 (.tmp 6) (.tmp 21) rfl g6 0 (mc R) rfl rfl (mc P) 28 hY6 (by first | (rw [HRs.out, HPs.out]; omega) | (rw [HRs.out]; omega)) (by rw [HRs.out]; exact size_mach) (mc_one _) ?_; intro w7 hXw7 hkeep hsz hbl; clear hsz; rw [HRo.out] at hXw7; have hbw7 := hbl w.heap.size w (hge3) hb6; have hT7 := hkeep g5 _ _ (by omega) hT6; clear hkeep hbl) | (with_reducible show wpList _ _ _ _ _ _; refine wpList_load_blk rfl 28 (.tmp 6) rfl g6 0 rfl (mc R) _ (by first | exact hXw7) 98 (by rw [HRs.out]; omega) _ Try.underlying28 rfl size_mach ?_; rw [HR1.out]) | (with_reducible show wpList _ _ _ _ _ _; refine wpList_load_blk rfl 28 (.tmp 5) rfl g5 0 rfl (mc Tm) _ (by first | exact hT7) 98 (by rw [HTs.out]; omega) _ Try.underlying28 rfl size_mach ?_; rw [HT1.out]) | ((with_reducible show wpList _ _ _ _ _ _); refine wpList_eql rfl 28 28 (.tmp 22) (.tmp 23) rfl (mc R) (mc Tm) (.bool true) rfl rfl (by kernel_rfl) (Heq.out _) ?_; (intro K hK; go_simp; refine hK _ ?_; clear hK K)))
          go_ret
          exact ⟨by rw [Hr.out]; exact (if_pos rfl).mpr rfl, hbw7⟩
        · have Hnx : Hid (ordF M L S q (n - (k + 1)) (k + 1) R = x) := Lib.hid (by rw [← Hor.out]; exact (Hon.out he).symm)
          rw [decide_eq_false he] at Heq
          clear he Hhit Hon
          go_wp2_with (first | ((with_reducible show wpList _ _ _ _ _ _); refine wpList_build2 rfl 57 0 1 (.tmp 6) (.const (.int .i64 0)) rfl (.pointer (some ⟨g6, 0, none⟩)) (.int .i64 0) rfl rfl _ (built_gd2 g6 0) ?_) | ((with_reducible show wpList _ _ _ _ _ _); refine wpList_load_blk rfl 57 (.tmp 2) rfl w.heap.size 0 rfl _ _ hF 2 (Nat.le_refl 2) _ Try.underlying57 rfl size_guide ?_; rw [Hcu.out]) | (go_at_call 50; refine Hc.out.mono ?_; rintro e w6 ⟨rfl, hc6⟩; have hb6 := below_step hbw hc6; have hY6 := hY.keptAll hc6; have hT6 := hT.keptAll hc6; have hF6 := hF.keptAll hc6) | ((with_reducible show wpList _ _ _ _ _ _); refine wpList_store_blk rfl 28 (.tmp 6) (.tmp 21) rfl g6 0 (mc R) rfl rfl (mc P) 28 hY6 (by first | (rw [HRs.out, HPs.out]; omega) | (rw [HRs.out]; omega)) (by rw [HRs.out]; exact size_mach) (mc_one _) ?_; intro w7 hXw7 hkeep hsz hbl; clear hsz; rw [HRo.out] at hXw7; have hbw7 := hbl w.heap.size w (hge3) hb6; have hT7 := hkeep g5 _ _ (by omega) hT6; have hF7 := hkeep w.heap.size _ _ (by omega) hF6; clear hkeep hbl) | (with_reducible show wpList _ _ _ _ _ _; refine wpList_load_blk rfl 28 (.tmp 6) rfl g6 0 rfl (mc R) _ (by first | exact hXw7) 98 (by rw [HRs.out]; omega) _ Try.underlying28 rfl size_mach ?_; rw [HR1.out]) | (with_reducible show wpList _ _ _ _ _ _; refine wpList_load_blk rfl 28 (.tmp 5) rfl g5 0 rfl (mc Tm) _ (by first | exact hT7) 98 (by rw [HTs.out]; omega) _ Try.underlying28 rfl size_mach ?_; rw [HT1.out]) | ((with_reducible show wpList _ _ _ _ _ _); refine wpList_eql rfl 28 28 (.tmp 22) (.tmp 23) rfl (mc R) (mc Tm) (.bool false) rfl rfl (by kernel_rfl) (Heq.out _) ?_; (intro K hK; go_simp; refine hK _ ?_; clear hK K)))
          go_roundw
          case rel => exact ⟨k + 1, R, SQ, by omega, by go_num, HQ.out, h0Q, Hnx.out, hF7, hT7, hXw7, hbw7⟩
          case measure => simp [intOf] <;> omega
    · obtain rfl : n = k := by omega
      have Hr : Hid (x = (0, 4)) := Lib.hid (by rw [← Hor.out, Nat.sub_self]; rfl)
      have hki : ¬ (n : Int) < (n : Int) := by omega
      go_wp2
      exact ⟨rfl, by rw [Hr.out]; exact (if_neg (by decide)).mpr rfl, hbw⟩

set_option maxRecDepth 100000 in
set_option maxHeartbeats 1000000 in
theorem orClosure_ok (M : Mach) (L S : Nat) (hg : Good M L S) (q : Nat) (hq : q < S) (n : Nat) (hn : n ≤ 16) (bm bq bn : Nat) (w : World) (hM : Blk w bm (mc M) 28) (hQ : Blk w bq #[.int .i64 (q : Int)] 2) (hN : Blk w bn #[.int .i64 (n : Int)] 2) (h : (ordF M L S q n 0 (trivM L)).2 = 0) :
    Calls Try.prog 60 #[.pointer (some ⟨bm, 0, none⟩), .pointer (some ⟨bq, 0, none⟩), .pointer (some ⟨bn, 0, none⟩)] w fun e w' => e = .returned (.int .i64 (ordF M L S q n 0 (trivM L)).1) ∧ Below w.heap.size w w' := by
  have H := Lib.hid (orderUpTo_calls M L S hg q hq n hn bm w hM)
  unfold ordOk at H
  simp only [h, if_true] at H
  have cQ : w.cell? ⟨bq, 0, none⟩ = some (.int .i64 (q : Int)) := hQ.cell 0
  have cN : w.cell? ⟨bn, 0, none⟩ = some (.int .i64 (n : Int)) := hN.cell 0
  generalize (ordF M L S q n 0 (trivM L)).1 = v at *
  clear h hM hQ hN hg hq hn
  go_enter Try.func60, Try.ntmps60
  go_wp2_with (first | ((with_reducible show wpList _ _ _ _ _ _); refine wpList_build2 rfl 57 0 1 (.tmp 0) (.tmp 4) rfl (.pointer (some ⟨bm, 0, none⟩)) (.int .i64 (q : Int)) rfl rfl _ (built_gd2 bm q) ?_) | (go_at_call 61; refine H.out.mono ?_; rintro e w1 ⟨rfl, hc1⟩))
  go_ret
  exact ⟨rfl, hc1⟩
set_option maxRecDepth 100000 in
set_option maxHeartbeats 1000000 in
theorem orClosure_up (M : Mach) (L S : Nat) (hg : Good M L S) (q : Nat) (hq : q < S) (n : Nat) (hn : n ≤ 16) (bm bq bn : Nat) (w : World) (hM : Blk w bm (mc M) 28) (hQ : Blk w bq #[.int .i64 (q : Int)] 2) (hN : Blk w bn #[.int .i64 (n : Int)] 2) (h : ¬ (ordF M L S q n 0 (trivM L)).2 = 0) :
    Calls Try.prog 60 #[.pointer (some ⟨bm, 0, none⟩), .pointer (some ⟨bq, 0, none⟩), .pointer (some ⟨bn, 0, none⟩)] w fun e w' => e = gaveUp (ordF M L S q n 0 (trivM L)).2 ∧ Below w.heap.size w w' := by
  have H := Lib.hid (orderUpTo_calls M L S hg q hq n hn bm w hM)
  unfold ordOk at H
  simp only [h, if_false] at H
  have cQ : w.cell? ⟨bq, 0, none⟩ = some (.int .i64 (q : Int)) := hQ.cell 0
  have cN : w.cell? ⟨bn, 0, none⟩ = some (.int .i64 (n : Int)) := hN.cell 0
  generalize (ordF M L S q n 0 (trivM L)).2 = v at *
  clear h hM hQ hN hg hq hn
  go_enter Try.func60, Try.ntmps60
  go_wp2_with (first | ((with_reducible show wpList _ _ _ _ _ _); refine wpList_build2 rfl 57 0 1 (.tmp 0) (.tmp 4) rfl (.pointer (some ⟨bm, 0, none⟩)) (.int .i64 (q : Int)) rfl rfl _ (built_gd2 bm q) ?_) | (go_at_call 61; refine H.out.mono ?_; rintro e w1 ⟨he, hc1⟩; unfold gaveUp at he; subst he))
  exact ⟨rfl, rfl, hc1⟩
theorem ordF_zero {M : Mach} {L S q : Nat} (f : Nat) : ∀ (k : Nat) (P : Mach), ¬ (ordF M L S q f k P).2 = 0 → (ordF M L S q f k P).1 = 0 := by
  induction f with
  | zero => exact fun _ _ _ => rfl
  | succ f ih =>
    intro k P h
    cases h1 : ltB (prA P M S) L (0 * S + q)
    · rw [ordF_up h1]
    · by_cases h2 : ltR (prA P M S) L (0 * S + q) = trivM L
      · rw [ordF_hit h1 h2] at h
        exact absurd rfl h
      · rw [ordF_on h1 h2] at h ⊢
        exact ih _ _ h
theorem orDoor (M : Mach) (L S : Nat) (hg : Good M L S) (q : Nat) (hq : q < S) (n : Nat) (hn : n ≤ 16) (bm bq bn : Nat) (w : World) (hM : Blk w bm (mc M) 28) (hQ : Blk w bq #[.int .i64 (q : Int)] 2) (hN : Blk w bn #[.int .i64 (n : Int)] 2) :
    Calls Try.prog 59 #[.func (.func 60) #[] #[.pointer (some ⟨bm, 0, none⟩), .pointer (some ⟨bq, 0, none⟩), .pointer (some ⟨bn, 0, none⟩)]] w fun e w' => e = .returned (.tuple #[.int .i64 (ordF M L S q n 0 (trivM L)).1, .int .i64 (ordF M L S q n 0 (trivM L)).2]) ∧ Below w.heap.size w w' := by
  have hcf : ∀ w : World, (callFunc 60 #[.pointer (some ⟨bm, 0, none⟩), .pointer (some ⟨bq, 0, none⟩), .pointer (some ⟨bn, 0, none⟩)]).run Try.prog w = .ok (.enter 60 #[.pointer (some ⟨bm, 0, none⟩), .pointer (some ⟨bq, 0, none⟩), .pointer (some ⟨bn, 0, none⟩)]) w := fun _ => run_fn _ _ Try.func60 (by kernel_rfl) (by kernel_rfl) _ _
  have hal : Below w.heap.size w (w.alloc (.cells #[.int .i64 0] 2)) := by (repeat (first | exact Below.refl _ _ | refine below_drew' ?_ | refine below_drewN' ?_ _ | refine below_alloc' ?_ _ | refine below_set' ?_ (by (try simp); (try omega)) _ | refine below_step ?_ (by assumption)))
  have hsz : (w.alloc (.cells #[.int .i64 0] 2)).heap.size = w.heap.size + 1 := by simp
  by_cases h : (ordF M L S q n 0 (trivM L)).2 = 0
  · have H := orClosure_ok M L S hg q hq n hn bm bq bn _ (hM.keptAll hal) (hQ.keptAll hal) (hN.keptAll hal) h
    rw [hsz] at H
    refine (behindDoorN_ok _ _ w (fun v _ => v = .int .i64 (ordF M L S q n 0 (trivM L)).1) hcf (H.mono fun e w' h => ⟨_, h.1, rfl, h.2⟩)).mono fun e w' hh => ?_
    obtain ⟨v, w2, he, rfl, hb, rfl⟩ := hh
    exact ⟨by rw [he, h], below_set' (hal.trans (below_le hb (by omega))) (Nat.le_refl _) _⟩
  · have H := orClosure_up M L S hg q hq n hn bm bq bn _ (hM.keptAll hal) (hQ.keptAll hal) (hN.keptAll hal) h
    rw [hsz] at H
    refine (behindDoorN_up _ _ w (ordF M L S q n 0 (trivM L)).2 (fun _ => True) hcf (H.mono fun e w' h => ⟨h.1, trivial, h.2⟩)).mono fun e w' hh => ?_
    obtain ⟨w2, he, _, hb, rfl⟩ := hh
    exact ⟨by rw [he, ordF_zero _ _ _ h], below_set' (hal.trans (below_le hb (by omega))) (Nat.le_refl _) _⟩

set_option maxRecDepth 100000 in
set_option maxHeartbeats 2000000 in
theorem iOrderByPowers_calls (M : Mach) (hok : M.Ok) (q n : Int) (w : World) :
    Calls Try.prog 32 #[.agg (mc M), .int .i64 q, .int .i64 n] w fun e w' => e = .returned (.tuple #[.int .i64 (orX M q n).1, .int .i64 (orX M q n).2]) ∧ Below w.heap.size w w' := by
  have hz := zero_mach
  have F1 : Hid (cut (mc M) 0 98 = mc M) := Lib.hid (cut_all _ _ (mc_size hok))
  have F2 : Hid (0 + 98 ≤ (mc M).size) := Lib.hid (by rw [mc_size hok]; omega)
  have hmf : ∀ (fn : Fn) (first cap : Array Value) (w : World), (Instr.makeFunc fn first cap).run Try.prog w = .ok (.func fn first cap) w := fun _ _ _ _ => rfl
  have hM0 : Blk (((w.alloc (.cells (mc M) 28)).alloc (.cells #[.int .i64 q] 2)).alloc (.cells #[.int .i64 n] 2)) w.heap.size (mc M) 28 := ((Blk.new w _ _).alloc _).alloc _
  have hQ0 : Blk (((w.alloc (.cells (mc M) 28)).alloc (.cells #[.int .i64 q] 2)).alloc (.cells #[.int .i64 n] 2)) (w.heap.size + 1) #[.int .i64 q] 2 := (Blk.new_at _ _ _ _ (by simp)).alloc _
  have hN0 : Blk (((w.alloc (.cells (mc M) 28)).alloc (.cells #[.int .i64 q] 2)).alloc (.cells #[.int .i64 n] 2)) (w.heap.size + 1 + 1) #[.int .i64 n] 2 := Blk.new_at _ _ _ _ (by simp)
  have hb0 : Below w.heap.size w (((w.alloc (.cells (mc M) 28)).alloc (.cells #[.int .i64 q] 2)).alloc (.cells #[.int .i64 n] 2)) := by show Below _ _ (World.alloc _ _); (repeat (first | exact Below.refl _ _ | refine below_drew' ?_ | refine below_drewN' ?_ _ | refine below_alloc' ?_ _ | refine below_set' ?_ (by (try simp); (try omega)) _ | refine below_step ?_ (by assumption)))
  have cQ : ((((w.alloc (.cells (mc M) 28)).alloc (.cells #[.int .i64 q] 2)).alloc (.cells #[.int .i64 n] 2))).cell? ⟨w.heap.size + 1, 0, none⟩ = some (.int .i64 q) := hQ0.cell 0
  have cN : ((((w.alloc (.cells (mc M) 28)).alloc (.cells #[.int .i64 q] 2)).alloc (.cells #[.int .i64 n] 2))).cell? ⟨w.heap.size + 1 + 1, 0, none⟩ = some (.int .i64 n) := hN0.cell 0
  by_cases h0 : pwC M q n 1 = 0
  · obtain ⟨L, S, qn, hg, rfl, hq, hn1, hn2⟩ := pwC_good hok h0
    obtain ⟨m, rfl⟩ : ∃ m : Nat, n = (m : Int) := ⟨n.toNat, by omega⟩
    have HX := Lib.hid (orX_good hg h0)
    have HCh := Lib.hid (fun W => checkPower_calls M hok qn m 1 W)
    rw [h0] at HCh
    have HD := Lib.hid (fun W h1 h2 h3 => orDoor M L S hg qn hq m (by omega) w.heap.size (w.heap.size + 1) (w.heap.size + 1 + 1) W h1 h2 h3)
    rw [← HX.out] at HD
    clear h0 hg
    generalize (orX M qn m).1 = v1 at *
    generalize (orX M qn m).2 = v2 at *
    go_enter Try.func32, Try.ntmps32
    go_wp2_with (first | (with_reducible show wpList _ _ _ _ _ _; refine wpList_load_blk rfl 28 (.tmp 3) rfl w.heap.size 0 rfl (mc M) _ (by first | exact hM0) 98 F2.out _ Try.underlying28 rfl size_mach ?_; rw [F1.out]) | (go_at_call 55; refine (HCh.out _).mono ?_; rintro e w1 ⟨rfl, hc1⟩; have hM1 := hM0.keptAll hc1; have hQ1 := hQ0.keptAll hc1; have hN1 := hN0.keptAll hc1; have hb1 := below_step hb0 hc1; have Hdoor := Lib.hid (HD.out _ hM1 hQ1 hN1)) | (go_at_call 59; refine Hdoor.out.mono ?_; rintro e w2 ⟨rfl, hc2⟩; have hb2 := below_step hb1 hc2))
    go_ret2
    exact ⟨rfl, hb2⟩
  · have HX : Hid (orX M q n = (0, pwC M q n 1)) := Lib.hid (by unfold orX; rw [if_neg h0])
    have hne : (pwC M q n 1 == 0) = false := by simpa using h0
    have hne2 : (pwC M q n 1 != 0) = true := by simpa using h0
    clear h0
    go_enter Try.func32, Try.ntmps32
    go_wp2_with (first | (with_reducible show wpList _ _ _ _ _ _; refine wpList_load_blk rfl 28 (.tmp 3) rfl w.heap.size 0 rfl (mc M) _ (by first | exact hM0) 98 F2.out _ Try.underlying28 rfl size_mach ?_; rw [F1.out]) | (go_at_call 55; refine (checkPower_calls M hok q n 1 _).mono ?_; rintro e w1 ⟨rfl, hc1⟩; have hb1 := below_step hb0 hc1))
    go_ret2
    exact ⟨by rw [HX.out]; try rfl, hb1⟩
end Go.Proofs.Ytkkooafjpancoaa
