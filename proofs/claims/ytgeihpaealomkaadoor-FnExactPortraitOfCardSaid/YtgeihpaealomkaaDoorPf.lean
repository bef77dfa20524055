/- Permutations by which states lead first letters: 'putOut'. -/
import Derived.Test.YtgeihpaealomkaaDoorMuS
import Derived.Test.YtgeihpaealomkaaDoorAct
import Derived.Test.YtgeihpaealomkaaDoorLawA
import Derived.Test.YtgeihpaealomkaaDoorMachC
import Derived.Test.YtgeihpaealomkaaDoorLawB
import Derived.Test.YtgeihpaealomkaaDoorMuI
import Derived.Test.YtgeihpaealomkaaDoorRgW
namespace Go.Proofs.YtgeihpaealomkaaDoor
open Go.RowKit

def put3 (L : Nat) (a b c : Int) : List Int := if L = 2 then [a, b, 2] else [a, b, c]
def pfP (M : Mach) (L q : Nat) : List Int := put3 L (M.o q 0) (M.o q 1) (M.o q 2)
def pfR (M : Mach) (q : Nat) : List Int := [M.o q 0, M.o q 1, M.o q 2]
def pfN (M : Mach) (L q : Nat) : Nat := (numR L (pfP M L q)).toNat
theorem Good.o_zero {M : Mach} {L S : Nat} (h : Good M L S) (q x : Nat) (hq : q < 16) (hx : x < 3) (hxL : ¬ x < L) : M.o q x = 0 := by
  have h1 := (List.all_eq_true.1 h.all) q (by simp; omega)
  have h2 := (List.all_eq_true.1 h1) x (by simp; omega)
  unfold cellAll at h2
  rw [if_neg (fun e => hxL e.2)] at h2
  exact (of_decide_eq_true h2).2
theorem Good.o_ne {M : Mach} {L S : Nat} (h : Good M L S) (q x y : Nat) (hq : q < S) (hx : x < L) (hy : y < x) : M.o q x ≠ M.o q y := by
  intro e
  have := h.cell q x hq hx
  simp only [cellOk, Bool.and_eq_true, decide_eq_true_eq, Bool.not_eq_true'] at this
  have h2 := this.2.2
  unfold seenB at h2
  rw [List.any_eq_false] at h2
  exact h2 y (by simpa using hy) (by simpa using e.symm)
def pfOk (L : Nat) (a b c : Int) : Prop := rows3 (put3 L a b c) ∧ numR L (put3 L a b c) = ((numR L (put3 L a b c)).toNat : Int) ∧ (numR L (put3 L a b c)).toNat < cN L ∧ sRow L (numR L (put3 L a b c)).toNat = [a, b, c] ∧ (∀ j, j < (numR L (put3 L a b c)).toNat → sRow L j ≠ [a, b, c]) ∧ byte3 [a, b, c]
instance (p : List Int) : Decidable (rows3 p) := by unfold rows3; infer_instance
instance (p : List Int) : Decidable (byte3 p) := by unfold byte3; infer_instance
instance (L : Nat) (a b c : Int) : Decidable (pfOk L a b c) := by unfold pfOk; infer_instance
theorem pf_facts (M : Mach) (L S q : Nat) (hg : Good M L S) (hq : q < S) : pfOk L (M.o q 0) (M.o q 1) (M.o q 2) := by
  have hL2 := hg.L2
  have hL3 := hg.L3
  have hS := hg.S16
  have b0 := hg.o_lt q 0 hq (by omega)
  have b1 := hg.o_lt q 1 hq (by omega)
  have n1 := hg.o_ne q 1 0 hq (by omega) (by omega)
  have key2 : ∀ a, a < 2 → ∀ b, b < 2 → a ≠ b → pfOk 2 (a : Nat) (b : Nat) 0 := by decide +kernel
  have key3' : ((List.range 3).all fun a => (List.range 3).all fun b => (List.range 3).all fun c => decide (a = b ∨ a = c ∨ b = c) || decide (pfOk 3 (a : Nat) (b : Nat) (c : Nat))) = true := by decide +kernel
  have key3 : ∀ a, a < 3 → ∀ b, b < 3 → ∀ c, c < 3 → a ≠ b → a ≠ c → b ≠ c → pfOk 3 (a : Nat) (b : Nat) (c : Nat) := by
    intro a ha b hb c hc n1 n2 n3
    have h1 := List.all_eq_true.1 key3' a (by simpa using ha)
    have h2 := List.all_eq_true.1 h1 b (by simpa using hb)
    have h3 := List.all_eq_true.1 h2 c (by simpa using hc)
    rw [Bool.or_eq_true, decide_eq_true_eq, decide_eq_true_eq] at h3
    rcases h3 with h3 | h3
    · omega
    · exact h3
  obtain ⟨x0, h0⟩ := Int.eq_ofNat_of_zero_le b0.1
  obtain ⟨x1, h1⟩ := Int.eq_ofNat_of_zero_le b1.1
  by_cases h2 : L = 2
  · subst h2
    rw [hg.o_zero q 2 (by omega) (by omega) (by omega), h0, h1]
    exact key2 x0 (by omega) x1 (by omega) (by omega)
  · obtain rfl : L = 3 := by omega
    have b2 := hg.o_lt q 2 hq (by omega)
    have n2 := hg.o_ne q 2 0 hq (by omega) (by omega)
    have n3 := hg.o_ne q 2 1 hq (by omega) (by omega)
    obtain ⟨x2, h2⟩ := Int.eq_ofNat_of_zero_le b2.1
    rw [h0, h1, h2]
    exact key3 x0 (by omega) x1 (by omega) x2 (by omega) (by omega) (by omega) (by omega)
theorem pf_cut3 (M : Mach) (hok : M.Ok) (q : Nat) (hq : q < 16) : cut (mc M) (50 + q * 3) 3 = u8s (pfR M q) := by
  have h0 := mc_o hok q 0 hq (by omega)
  have h1 := mc_o hok q 1 hq (by omega)
  have h2 := mc_o hok q 2 hq (by omega)
  unfold cut u8s pfR
  apply congrArg List.toArray
  apply List.ext_getElem?
  intro i
  rw [List.getElem?_take, List.getElem?_drop]
  match i with
  | 0 => simpa using h0
  | 1 => simpa using h1
  | 2 => simpa using h2
  | i + 3 => simp; omega
theorem pf_over (M : Mach) (hok : M.Ok) (L q : Nat) (hL : L = 2 ∨ L = 3) (hq : q < 16) : over (u8s [0, 1, 2]) 0 (cut (mc M) (50 + q * 3) L) = u8s (pfP M L q) := by
  have h0 := mc_o hok q 0 hq (by omega)
  have h1 := mc_o hok q 1 hq (by omega)
  rcases hL with rfl | rfl
  · have : cut (mc M) (50 + q * 3) 2 = u8s [M.o q 0, M.o q 1] := by
      unfold cut u8s
      apply congrArg List.toArray
      apply List.ext_getElem?
      intro i
      rw [List.getElem?_take, List.getElem?_drop]
      match i with
      | 0 => simpa using h0
      | 1 => simpa using h1
      | i + 2 => simp; omega
    rw [this]; rfl
  · rw [pf_cut3 M hok q hq]; rfl

set_option maxRecDepth 100000 in
set_option maxHeartbeats 1000000 in
theorem putOut_calls (M : Mach) (L S q : Nat) (hg : Good M L S) (hq : q < S) (w : World) (hT : TabsAt w) :
    Calls Tryd.prog 38 #[.agg (mc M), .int .i64 q] w fun e w' => e = .returned (.agg (u8s (pfP M L q))) ∧ Below w.heap.size w w' := by
  have hok := hg.ok
  have hL2 := hg.L2
  have hL3 := hg.L3
  have hS := hg.S16
  have hcL := mc_L M
  rw [hg.hL] at hcL
  have hLi : (L : Int) ≤ 3 := by omega
  have hqi : (q : Int) < 16 := by omega
  have hz0 := (zero_of_info info_pm).1
  have hsz := Lib.hid (zero_of_info info_pm).2
  have Hms : Hid ((mc M).size = 98) := Lib.hid (mc_size hok)
  have Hov := Lib.hid (pf_over M hok L q (by omega) (by omega))
  have Hpl : (pfP M L q).length = 3 := by unfold pfP put3; split <;> rfl
  have Hs3 : Hid ((u8s (pfP M L q)).size = 3) := Lib.hid (u8s_szs _ Hpl)
  have HcP : Hid (cut (u8s (pfP M L q)) 0 3 = u8s (pfP M L q)) := Lib.hid (cut_all _ _ Hs3.out)
  have Hi3 : Hid ((Tryd.prog.info? 54).map (·.size) = some (u8s (pfP M L q)).size) := Lib.hid (by rw [Hs3.out]; exact hsz.out)
  have Hf3 : Hid (0 + (u8s (pfP M L q)).size ≤ (u8s [0, 0, 0]).size) := Lib.hid (by rw [Hs3.out]; exact Nat.le_refl 3)
  have Ho3 : Hid (over (u8s [0, 0, 0]) 0 (u8s (pfP M L q)) = u8s (pfP M L q)) := Lib.hid (over_all _ _ (by rw [Hs3.out]; rfl))
  have Hi1 : Hid ((Tryd.prog.info? 54).map (·.size) = some (#[.int .u8 0, .int .u8 1, .int .u8 2] : Array Value).size) := Lib.hid hsz.out
  have Hf1 : Hid (0 + (#[.int .u8 0, .int .u8 1, .int .u8 2] : Array Value).size ≤ (u8s [0, 0, 0]).size) := Lib.hid (Nat.le_refl 3)
  have Ho1 : Hid (over (u8s [0, 0, 0]) 0 #[.int .u8 0, .int .u8 1, .int .u8 2] = u8s [0, 1, 2]) := Lib.hid rfl
  have h13 : (#[.int .u8 0, .int .u8 1, .int .u8 2] : Array Value).all (·.oneCell') = true := u8s_one [0, 1, 2]
  have hM : Blk (((w.alloc (.cells (mc M) 29)).alloc (.cells (u8s [0, 0, 0]) 54)).alloc (.cells (u8s [0, 0, 0]) 54)) w.heap.size (mc M) 29 := ((Blk.new w _ _).alloc _).alloc _
  have hR : Blk (((w.alloc (.cells (mc M) 29)).alloc (.cells (u8s [0, 0, 0]) 54)).alloc (.cells (u8s [0, 0, 0]) 54)) (w.heap.size + 1) (u8s [0, 0, 0]) 54 := (Blk.new_at _ _ _ _ (by simp)).alloc _
  have hP : Blk (((w.alloc (.cells (mc M) 29)).alloc (.cells (u8s [0, 0, 0]) 54)).alloc (.cells (u8s [0, 0, 0]) 54)) (w.heap.size + 2) (u8s [0, 0, 0]) 54 := Blk.new_at _ _ _ _ (by simp)
  have hbw : Below w.heap.size w (((w.alloc (.cells (mc M) 29)).alloc (.cells (u8s [0, 0, 0]) 54)).alloc (.cells (u8s [0, 0, 0]) 54)) := by (repeat (first | exact Below.refl _ _ | refine below_drew' ?_ | refine below_drewN' ?_ _ | refine below_alloc' ?_ _ | refine below_set' ?_ (by (try simp); (try omega)) _ | refine below_step ?_ (by assumption)))
  have hb2 : Below w.heap.size w ((w.alloc (.cells (mc M) 29)).alloc (.cells (u8s [0, 0, 0]) 54)) := by (repeat (first | exact Below.refl _ _ | refine below_drew' ?_ | refine below_drewN' ?_ _ | refine below_alloc' ?_ _ | refine below_set' ?_ (by (try simp); (try omega)) _ | refine below_step ?_ (by assumption)))
  have hT2 := hT.below hb2
  have c0 : ((w.alloc (.cells (mc M) 29)).alloc (.cells (u8s [0, 0, 0]) 54)).cell? ⟨0, 0, none⟩ = some (.int .u8 0) := hT2.1 0 0 (by omega) (by omega)
  have c1 : ((w.alloc (.cells (mc M) 29)).alloc (.cells (u8s [0, 0, 0]) 54)).cell? ⟨0, 1, none⟩ = some (.int .u8 1) := hT2.1 0 1 (by omega) (by omega)
  have c2 : ((w.alloc (.cells (mc M) 29)).alloc (.cells (u8s [0, 0, 0]) 54)).cell? ⟨0, 2, none⟩ = some (.int .u8 2) := hT2.1 0 2 (by omega) (by omega)
  clear hT hT2 hb2
  go_enter Tryd.func38, Tryd.ntmps38
  go_wp2_with (with_reducible show wpList _ _ _ _ _ _; refine wpList_store_row rfl 54 _ _ rfl (w.heap.size + 2) 0 #[.int .u8 0, .int .u8 1, .int .u8 2] rfl rfl _ _ hP Hf1.out Hi1.out h13 _ Ho1.out ?_; intro w3 hs3; have hM3 := hs3.keep (by omega) hM; have hR3 := hs3.keep (by omega) hR; have hP3 := hs3.blk; have hb3 := hs3.below _ _ (by omega) hbw)
  have cM := hM3.cell
  go_still_tail 7, (by kernel_rfl)
  refine wpList_copy_blk rfl _ _ 80 80 rfl 5 Tryd.underlying80 size_byte (w.heap.size + 2) 0 3 3 w.heap.size (50 + q * 3) L 3 rfl rfl (u8s [0, 1, 2]) (mc M) _ _ hP3.drew hM3.drew L (by show L = min L 3; omega) (by show 0 + L ≤ 3; omega) (by rw [Hms.out]; omega) (mc_ones M) ?_
  intro w4 hP4 hkeep _ hbl
  have hR4 := hkeep _ _ _ (by omega) hR3.drew
  have hb4 := hbl _ _ (by omega) hb3.drew
  rw [Hov.out] at hP4
  clear hkeep hbl cM hM3 hR3 hP3 hb3
  go_wp2_with (first | (with_reducible show wpList _ _ _ _ _ _; refine wpList_load_blk rfl 54 (.tmp 5) rfl (w.heap.size + 2) 0 rfl (u8s (pfP M L q)) _ hP4 3 (by rw [Hs3.out]; omega) _ Tryd.underlying54 rfl hsz.out ?_; rw [HcP.out]) | (with_reducible show wpList _ _ _ _ _ _; refine wpList_store_row rfl 54 _ _ rfl (w.heap.size + 1) 0 (u8s (pfP M L q)) rfl rfl _ _ hR4 Hf3.out Hi3.out (u8s_one _) _ Ho3.out ?_; intro w5 hs5))
  exact bodyPost_cell rfl rfl hs5.blk Tryd.underlying54 rfl Hi3.out rfl ⟨rfl, hs5.below _ _ (by omega) hb4⟩
end Go.Proofs.YtgeihpaealomkaaDoor

namespace Go.Proofs.YtgeihpaealomkaaDoor
open Go.RowKit Go.Shelf
attribute [local go_sem] Oper.semAt_some

def pfC (M : Mach) (q n : Int) : Int := if isMach M then (if decide (0 ≤ q ∧ q < M.S) && (decide (1 ≤ n) && decide (n ≤ 4)) then 0 else 2) else 1
def pfV (M : Mach) (L q : Nat) (s : ByteArray) : Int := (pfN M L (runL M q s.data.toList).1 : Int)
def pfL (M : Mach) (q n : Int) : List Int := if pfC M q n = 0 then allB (pfV M M.L.toNat q.toNat) M.L.toNat n.toNat else []
def pfF (M : Mach) (L q : Nat) (pre : List ByteArray) : List Int := pre.map (pfV M L q)
theorem pfC_zero (M : Mach) (q n : Int) (h : pfC M q n = 0) : isMach M = true ∧ (0 ≤ q ∧ q < M.S) ∧ (1 ≤ n ∧ n ≤ 4) := by
  unfold pfC at h
  split at h
  · rename_i h1
    split at h
    · rename_i h2
      simp only [Bool.and_eq_true, decide_eq_true_eq] at h2
      exact ⟨h1, h2.1, h2.2⟩
    · omega
  · omega
theorem pfL_len (M : Mach) (hok : M.Ok) (q n : Int) : (pfL M q n).length ≤ 100000 := by
  unfold pfL
  split
  · rename_i h
    obtain ⟨h1, h2, h3⟩ := pfC_zero M q n h
    obtain ⟨L, S, hg⟩ := Good.of hok h1
    have := hg.hL
    have := hg.L3
    exact Nat.le_trans (allB_len _ M.L.toNat n.toNat (by omega) (by omega)) (by omega)
  · simp
theorem run_st' {M : Mach} {L S : Nat} (h : Good M L S) (q : Nat) (hq : q < S) (l : List UInt8) (hl : lettersL L l = true) : (runL M q l).1 < S := by
  have := h.st_lt q hq l hl l.length (Nat.le_refl _)
  rwa [List.take_length] at this

/-- What a round holds on to. -/
def PfB (w W0 : World) (b gX p : Nat) (M : Mach) (v : Value) (zs : List Int) (W : World) : Prop :=
  AccAt W gX (gX + 1) v zs ∧ Blk W b (mc M) 29 ∧ Blk W (b + 1) #[.int .i64 p] 2 ∧ Below w.heap.size w W ∧ FootKeeps (accF gX v) (accF gX v) W0 W
theorem PfB.step {w W0 : World} {b gX p : Nat} {M : Mach} {v : Value} {zs : List Int} {W W' : World} (h : PfB w W0 b gX p M v zs W) (hb : Below W.heap.size W W') : PfB w W0 b gX p M v zs W' :=
  ⟨h.1.below hb, h.2.1.keptAll hb, h.2.2.1.keptAll hb, below_step h.2.2.2.1 hb, h.2.2.2.2.trans (FootKeeps.of_below hb)⟩

set_option maxRecDepth 100000 in
set_option maxHeartbeats 2000000 in
theorem iPortraitOf_calls (M : Mach) (hok : M.Ok) (q n : Int) (w : World) (hT : TabsAt w) :
    Calls Tryd.prog 12 #[.agg (mc M), .int .i64 q, .int .i64 n] w fun e w' => ∃ v1, e = .returned (.tuple #[v1, .int .i64 (pfC M q n)]) ∧ OwnI w' w.heap.size v1 (pfL M q n) ∧ Below w.heap.size w w' := by
  have F1 : Hid (cut (mc M) 0 98 = mc M) := Lib.hid (cut_all _ _ (mc_size hok)); have F2 : Hid (0 + 98 ≤ (mc M).size) := Lib.hid (by rw [mc_size hok]; omega)
  have hB : Blk ((w.alloc (.cells (mc M) 29)).alloc (.cells #[.int .i64 q] 2)) w.heap.size (mc M) 29 := (Blk.new w _ _).alloc _
  have hQ : Blk ((w.alloc (.cells (mc M) 29)).alloc (.cells #[.int .i64 q] 2)) (w.heap.size + 1) #[.int .i64 q] 2 := Blk.new_at _ _ _ _ (by simp)
  have hbw : Below w.heap.size w ((w.alloc (.cells (mc M) 29)).alloc (.cells #[.int .i64 q] 2)) := by (repeat (first | exact Below.refl _ _ | refine below_drew' ?_ | refine below_drewN' ?_ _ | refine below_alloc' ?_ _ | refine below_set' ?_ (by (try simp); (try omega)) _ | refine below_step ?_ (by assumption)))
  have hsz0 : ((w.alloc (.cells (mc M) 29)).alloc (.cells #[.int .i64 q] 2)).heap.size = w.heap.size + 2 := by simp
  have HT := Lib.hid hT
  clear hT
  cases hm : isMach M
  · have Hc : Hid (pfC M q n = 1) := Lib.hid (by simp [pfC, hm])
    have HR : Hid (pfL M q n = []) := Lib.hid (by unfold pfL; rw [Hc.out]; rfl)
    go_enter Tryd.func12, Tryd.ntmps12
    go_wp2_with (first | (with_reducible show wpList _ _ _ _ _ _; refine wpList_load_blk rfl 29 (.tmp 3) rfl w.heap.size 0 rfl (mc M) _ (hB) 98 F2.out _ Tryd.underlying29 rfl size_mach ?_; rw [F1.out]) | (go_at_call 33; refine (IsMachine_calls M hok _).mono ?_; rintro e w1 ⟨rfl, hb1⟩; rw [hm]))
    go_ret2
    exact ⟨_, ret_lw Hc.out.symm, by rw [HR.out]; exact OwnI.nil _ _, below_step hbw hb1⟩
  cases hq : decide (0 ≤ q ∧ q < M.S)
  · have Hc : Hid (pfC M q n = 2) := Lib.hid (by simp [pfC, hm, hq])
    have HR : Hid (pfL M q n = []) := Lib.hid (by unfold pfL; rw [Hc.out]; rfl)
    go_enter Tryd.func12, Tryd.ntmps12
    go_wp2_with (first | (with_reducible show wpList _ _ _ _ _ _; refine wpList_load_blk rfl 29 (.tmp 3) rfl w.heap.size 0 rfl (mc M) _ (by first | exact hB1 | exact hB) 98 F2.out _ Tryd.underlying29 rfl size_mach ?_; rw [F1.out]) | (go_at_call 33; refine (IsMachine_calls M hok _).mono ?_; rintro e w1 ⟨rfl, hb1⟩; have hB1 := hB.keptAll hb1; have hQ1 := hQ.keptAll hb1; have cQ := hQ1.cell 0; simp at cQ; rw [hm]) | (go_at_call 34; refine (isState_calls M q _).mono ?_; rintro e w2 ⟨rfl, hb2⟩; rw [hq]))
    go_ret2
    exact ⟨_, ret_lw Hc.out.symm, by rw [HR.out]; exact OwnI.nil _ _, below_step (below_step hbw hb1) hb2⟩
  cases hn : (decide (1 ≤ n) && decide (n ≤ 4))
  · have Hc : Hid (pfC M q n = 2) := Lib.hid (by unfold pfC; rw [hm, hq, hn]; rfl)
    have HR : Hid (pfL M q n = []) := Lib.hid (by unfold pfL; rw [Hc.out]; rfl)
    go_enter Tryd.func12, Tryd.ntmps12
    go_wp2_with (first | (with_reducible show wpList _ _ _ _ _ _; refine wpList_load_blk rfl 29 (.tmp 3) rfl w.heap.size 0 rfl (mc M) _ (by first | exact hB1 | exact hB) 98 F2.out _ Tryd.underlying29 rfl size_mach ?_; rw [F1.out]) | (go_at_call 33; refine (IsMachine_calls M hok _).mono ?_; rintro e w1 ⟨rfl, hb1⟩; have hB1 := hB.keptAll hb1; have hQ1 := hQ.keptAll hb1; have cQ := hQ1.cell 0; simp at cQ; rw [hm]) | (go_at_call 34; refine (isState_calls M q _).mono ?_; rintro e w2 ⟨rfl, hb2⟩; rw [hq]) | (go_at_call 35; refine (isDepth_calls n _).mono ?_; rintro e w' ⟨rfl, rfl⟩; rw [hn]))
    go_ret2
    exact ⟨_, ret_lw Hc.out.symm, by rw [HR.out]; exact OwnI.nil _ _, below_step (below_step hbw hb1) hb2⟩
  have Hc : Hid (pfC M q n = 0) := Lib.hid (by unfold pfC; rw [hm, hq, hn]; rfl)
  have HR : Hid (pfL M q n = allB (pfV M M.L.toNat q.toNat) M.L.toNat n.toNat) := Lib.hid (by unfold pfL; rw [if_pos Hc.out])
  obtain ⟨_, k2, k3⟩ := pfC_zero M q n Hc.out
  obtain ⟨L, S, hg⟩ := Good.of hok hm
  have hSS := hg.hS
  have hcL := mc_L M
  rw [hg.hL] at hcL
  rw [hg.hL, Int.toNat_natCast] at HR
  obtain ⟨m, rfl⟩ := Int.eq_ofNat_of_zero_le (a := n) (by omega)
  obtain ⟨p, rfl⟩ := Int.eq_ofNat_of_zero_le (a := q) (by omega)
  rw [Int.toNat_natCast] at *
  rw [Int.toNat_natCast] at *
  have hc23 : L = 2 ∨ L = 3 := by have := hg.L2; have := hg.L3; omega
  have hm4 : m ≤ 4 := by omega
  have hpS : p < S := by omega
  clear k2 k3 hSS
  refine (callsIn_wide (n := 3)).1 ?_
  refine callsIn_of_wp_marks Tryd.func12 rfl trivial ?_ rfl
  simp only [Tryd.ntmps12, List.size_toArray, List.length_cons, List.length_nil, Nat.reduceAdd, Nat.reduceSub, Array.replicate_succ, Array.replicate_zero, List.push_toArray, List.append_toArray, List.nil_append, List.cons_append]
  refine wpIn_wide.2 ?_
  go_wp2_with (first | (with_reducible show wpList _ _ _ _ _ _; refine wpList_load_blk rfl 29 (.tmp 3) rfl w.heap.size 0 rfl (mc M) _ (by first | exact hB1 | exact hB) 98 F2.out _ Tryd.underlying29 rfl size_mach ?_; rw [F1.out]) | (go_at_call 33; refine (IsMachine_calls M hok _).mono ?_; rintro e w1 ⟨rfl, hb1⟩; have hB1 := hB.keptAll hb1; have hQ1 := hQ.keptAll hb1; have cQ := hQ1.cell 0; simp at cQ; rw [hm]) | (go_at_call 34; refine (isState_calls M p _).mono ?_; rintro e w2 ⟨rfl, hb2⟩; have hB2 := (hB1.keptAll hb2).alloc (.cells #[.slice none 0 0] 26); have cM := hB2.cell 0; rw [hcL] at cM; rw [hq]) | (go_at_call 35; refine (isDepth_calls m _).mono ?_; rintro e w' ⟨rfl, rfl⟩; rw [hn]) | (go_at_call 36; refine (wordsBelow_calls _ _ _).mono ?_; rintro e w3 ⟨rfl, rfl⟩))
  have hX : Blk (((w2.alloc (.cells #[.slice none 0 0] 26)).alloc (.cells #[.int .i64 L] 2)).alloc (.cells #[.int .i64 m] 2)) w2.heap.size #[.slice none 0 0] 26 := ((Blk.new _ _ _).alloc _).alloc _
  have hD : Blk (((w2.alloc (.cells #[.slice none 0 0] 26)).alloc (.cells #[.int .i64 L] 2)).alloc (.cells #[.int .i64 m] 2)) (w2.heap.size + 1) #[.int .i64 L] 2 := (Blk.new_at _ _ _ _ (by simp)).alloc _
  have hN : Blk (((w2.alloc (.cells #[.slice none 0 0] 26)).alloc (.cells #[.int .i64 L] 2)).alloc (.cells #[.int .i64 m] 2)) (w2.heap.size + 2) #[.int .i64 m] 2 := Blk.new_at _ _ _ _ (by simp)
  have hb5 : Below w2.heap.size w2 (((w2.alloc (.cells #[.slice none 0 0] 26)).alloc (.cells #[.int .i64 L] 2)).alloc (.cells #[.int .i64 m] 2)) := by (repeat (first | exact Below.refl _ _ | refine below_drew' ?_ | refine below_drewN' ?_ _ | refine below_alloc' ?_ _ | refine below_set' ?_ (by (try simp); (try omega)) _ | refine below_step ?_ (by assumption)))
  have hsz5 : (((w2.alloc (.cells #[.slice none 0 0] 26)).alloc (.cells #[.int .i64 L] 2)).alloc (.cells #[.int .i64 m] 2)).heap.size = w2.heap.size + 3 := by simp
  have hs2 := (below_step hb1 hb2).size
  rw [hsz0] at hs2
  have hbw5 := below_step (below_step (below_step hbw hb1) hb2) hb5
  have hM5 := (hB1.keptAll hb2).keptAll hb5
  have hQ5 := (hQ1.keptAll hb2).keptAll hb5
  generalize ((w2.alloc (.cells #[.slice none 0 0] 26)).alloc (.cells #[.int .i64 L] 2)).alloc (.cells #[.int .i64 m] 2) = W5 at *
  generalize w2.heap.size = gX at *
  clear hb1 hb2 hb5 hB hB1 hB2 hQ hQ1 cQ cM hbw hsz0
  refine (wpIn_wide (n := 3)).1 ?_
  refine wp_rangeFoot (n := 3) (gf := 69) (lb := #[.pointer (some ⟨gX + 2, 0, none⟩), .pointer (some ⟨gX + 1, 0, none⟩)]) rfl (enters_of Tryd.func69 (by kernel_rfl) rfl)
    (wordsBelow_gives L m _ _ hc23 hm4 W5 hN hD) (Below.refl _ _)
    (fun s W => ∃ v, s.2 = accF gX v ∧ AccAt W gX (gX + 1) v (pfF M L p s.1) ∧ Blk W w.heap.size (mc M) 29 ∧ Blk W (w.heap.size + 1) #[.int .i64 p] 2 ∧ Below w.heap.size w W)
    (fun _ _ => False)
    ?own (fun _ _ _ _ h _ _ => h) ?foot (accF gX (.slice none 0 0)) ⟨_, rfl, ⟨hX, OwnI.nil _ _, by omega⟩, hM5, hQ5, hbw5⟩ ?caps
    (fun x => { tmps := #[.agg (mc M), .int .i64 (p : Int), .int .i64 (m : Int), .pointer (some ⟨w.heap.size, 0, none⟩), .pointer (some ⟨w.heap.size + 1, 0, none⟩), undef, .slice none 0 0, .int .i64 0, .pointer (some ⟨gX, 0, none⟩), .string x, undef, undef, .agg (mc M), .bool true, .bool false, .agg (mc M), .int .i64 (p : Int), .bool true, .bool false, .bool false, .int .i64 (m : Int), .bool true, .bool false, .bool false, .pointer (some ⟨w.heap.size, 0, none⟩), .int .i64 (L : Int), .int .i64 (m : Int), .func (.func 69) #[] #[.pointer (some ⟨gX + 1 + 1, 0, none⟩), .pointer (some ⟨gX + 1, 0, none⟩)], .string x, undef, undef, undef, undef, undef, undef, undef, undef, undef, undef, undef, undef, undef, undef, undef, undef, undef], defers := [] })
    ?assign ?body ?done ?stop
  case own =>
    rintro s X Z row ⟨v, x1, x2, x3, x4, x5⟩ hg hr
    exact ⟨v, x1, x2.turn hg (fun r e => (hr r e).2), x3.turn hg (fun r e => (hr r e).2), x4.turn hg (fun r e => (hr r e).2), ownFrom_below (β := Unit) (Nat.le_refl _) (by omega) () X Z row x5 hg hr⟩
  case foot =>
    rintro s X ⟨v, x1, x2, _, _⟩ k hk
    rw [x1] at hk
    exact x2.foot k hk
  case caps =>
    rintro i (rfl | rfl) (h | h)
    · omega
    · simp [Value.ownBlock] at h
    · omega
    · simp [Value.ownBlock] at h
  case assign =>
    intro l2 x W' K hK
    gi_wp2
    exact hK
  case body =>
    rintro l2 ⟨pre, ft⟩ x W' ⟨v, x1, x2, x3, x4, x5⟩ hpre
    dsimp only at x1 x2 hpre ⊢
    subst x1
    obtain ⟨q1, q2⟩ := kAt_in' L m hc23 x (hpre.subset (by simp))
    have hd3 : L ≤ 3 := by omega
    have hst := run_st' hg p hpS x.data.toList q2
    have HWk := Lib.hid (fun W => walk_calls M L S hg p hpS x (by rw [size_list x]; omega) q2 W)
    have HPo := Lib.hid (fun W hT => putOut_calls M L S _ hg hst W hT)
    obtain ⟨hr3, hz, _, _, _, _⟩ := pf_facts M L S _ hg hst
    have HNu := Lib.hid (fun W hT => number_calls (pfP M L (runL M p x.data.toList).1) hr3 L hd3 W hT)
    rw [show numR L (pfP M L (runL M p x.data.toList).1) = ((pfN M L (runL M p x.data.toList).1 : Nat) : Int) from hz] at HNu
    have HF : Hid (pfF M L p (pre ++ [x]) = pfF M L p pre ++ [((pfN M L (runL M p x.data.toList).1 : Nat) : Int)]) := Lib.hid (by simp [pfF, pfV])
    have Hln : Hid ((pfF M L p pre).length ≤ 1215) := Lib.hid (by
      have h1 := hpre.length_le
      have h2 := wordsB_len L hd3 m (by omega)
      simp [pfF] at h1 ⊢
      omega)
    clear q1 q2 hst hr3 hz hpre
    generalize pfN M L (runL M p x.data.toList).1 = z at *
    generalize pfP M L (runL M p x.data.toList).1 = r3 at *
    generalize (⟨(runL M p x.data.toList).2.toArray⟩ : ByteArray) = y at *
    generalize (runL M p x.data.toList).1 = st at *
    obtain ⟨o', c', hve, _⟩ := x2.2.1.view
    subst hve
    generalize hvv : Value.slice o' (pfF M L p pre).length c' = v at *
    have h0 : PfB w W' w.heap.size gX p M v (pfF M L p pre) W' := ⟨x2, x3, x4, x5, FootKeeps.refl _ _⟩
    have cQ := x4.cell 0
    simp at cQ
    gi_step
    gi_step
    gi_step
    refine wpIn_mono (Q := fun e a' W'' => match e with
      | .normal => a' = { tmps := #[.agg (mc M), .int .i64 (p : Int), .int .i64 (m : Int), .pointer (some ⟨w.heap.size, 0, none⟩), .pointer (some ⟨w.heap.size + 1, 0, none⟩), undef, .slice none 0 0, .int .i64 0, .pointer (some ⟨gX, 0, none⟩), .string x, .string y, .int .i64 (st : Nat), .agg (mc M), .bool true, .bool false, .agg (mc M), .int .i64 (p : Int), .bool true, .bool false, .bool false, .int .i64 (m : Int), .bool true, .bool false, .bool false, .pointer (some ⟨w.heap.size, 0, none⟩), .int .i64 (L : Int), .int .i64 (m : Int), .func (.func 69) #[] #[.pointer (some ⟨gX + 1 + 1, 0, none⟩), .pointer (some ⟨gX + 1, 0, none⟩)], .string x, .tuple #[.string y, .int .i64 (st : Nat)], .agg (mc M), .int .i64 (p : Int), .string x, .tuple #[.string y, .int .i64 (st : Nat)], .string y, .int .i64 (st : Nat), undef, undef, undef, undef, undef, undef, undef, undef, undef, undef], defers := [] } ∧ PfB w W' w.heap.size gX p M v (pfF M L p pre) W''
      | _ => False) ?reg8 ?rest8
    case reg8 =>
      refine region_round (by kernel_rfl) (not_out _ (fun _ _ h => h)) ?_
      go_wp2_with (first | (with_reducible show wpList _ _ _ _ _ _; refine wpList_load_blk rfl 29 (.tmp 3) rfl w.heap.size 0 rfl (mc M) _ (x3) 98 F2.out _ Tryd.underlying29 rfl size_mach ?_; rw [F1.out]) | (go_at_call 37; refine (HWk.out _).mono ?_; rintro e w3 ⟨rfl, hb3⟩))
      exact h0.step hb3
    case rest8 =>
      rintro e a' W2 h
      cases e with
      | normal =>
        obtain ⟨rfl, hM⟩ := h
        clear x2 x3 x4 x5 cQ
        have hMd := hM.step (Below.drew (Below.refl W2.heap.size W2))
        have hsc := h0.1.foot
        have hgX := h0.1.1.lt
        have hb0 := h0.2.1.lt
        have hq0 := h0.2.2.1.lt
        gi_wp2_with fail
        refine wp_region_last (n := 9) (S := fun W => Blk W gX #[v] 26 ∧ Blk W w.heap.size (mc M) 29) (by kernel_rfl) rfl (by kernel_rfl) (by kernel_rfl) (not_out _ (fun _ _ h => h)) ⟨hMd.1.1, hMd.2.1⟩ (fun hS => ?_)
        (refine hK_take 0 v rfl (by kernel_rfl) (by kernel_rfl) (by kernel_rfl) (fun _ _ _ h => h) rfl (fun W hW => by have c1 := Blk.cell hW.1 0; simp at c1; clear hW; subst hvv; go_simp) hS ?_; (intro K hK; go_simp; refine hK _ ?_; clear hK K))
        (refine hK_load 1 rfl (by kernel_rfl) (by kernel_rfl) (by kernel_rfl) 29 _ rfl w.heap.size 0 rfl (mc M) _ (fun W hW => hW.2) 98 F2.out _ Tryd.underlying29 rfl size_mach _ F1.out (fun _ _ _ h => h) rfl hS ?_; (intro K hK; go_simp; refine hK _ ?_; clear hK K))
        (refine hK_take 2 (.int .i64 (st : Nat)) rfl (by kernel_rfl) (by kernel_rfl) (by kernel_rfl) (fun _ _ _ h => h) rfl (fun W _ => by go_simp) hS ?_; (intro K hK; go_simp; refine hK _ ?_; clear hK K))
        (refine hK_take 4 (.pointer (some ⟨w.heap.size, 0, none⟩)) rfl (by kernel_rfl) (by kernel_rfl) (by kernel_rfl) (fun _ _ _ h => h) rfl (fun W _ => by go_simp) hS ?_; (intro K hK; go_simp; refine hK _ ?_; clear hK K))
        (refine hK_take 5 (.int .i64 (L : Int)) rfl (by kernel_rfl) (by kernel_rfl) (by kernel_rfl) (fun _ _ _ h => h) rfl (fun W hW => by have c1 := Blk.cell hW.2 0; rw [hcL] at c1; clear hW; go_simp) hS ?_; (intro K hK; go_simp; refine hK _ ?_; clear hK K))
        (refine wpAnyH_ready (rs := [3]) (by kernel_rfl) (by simp) ?_; refine AllReadyH.cons rfl (fun K hK => ?_) AllReadyH.nil); go_simp; refine (HPo.out _ (HT.out.below hMd.2.2.2.1)).mono ?_; rintro e w3 ⟨rfl, hb3⟩
        (go_simp; refine hK.out _ _ (⟨hS.1.keptAll hb3, hS.2.keptAll hb3⟩) (fun hS => ?_); clear hK K)
        have hM3 := hMd.step hb3
        (refine wpAnyH_ready (rs := [6]) (by kernel_rfl) (by simp) ?_; refine AllReadyH.cons rfl (fun K hK => ?_) AllReadyH.nil); go_simp; refine (HNu.out _ (HT.out.below hM3.2.2.2.1)).mono ?_; rintro e w4 ⟨rfl, hb4⟩
        (go_simp; refine hK.out _ _ (⟨hS.1.keptAll hb4, hS.2.keptAll hb4⟩) (fun hS => ?_); clear hK K)
        have hM4 : PfB w W' w.heap.size gX p M v (pfF M L p pre) (w4.alloc (.cells #[.int .i64 (z : Nat)] 2)) := (hM3.step hb4).step (by (repeat (first | exact Below.refl _ _ | refine below_drew' ?_ | refine below_drewN' ?_ _ | refine below_alloc' ?_ _ | refine below_set' ?_ (by (try simp); (try omega)) _ | refine below_step ?_ (by assumption))))
        have hnew : Blk (w4.alloc (.cells #[.int .i64 (z : Nat)] 2)) w4.heap.size #[.int .i64 (z : Nat)] 2 := Blk.new _ _ _
        refine wpAnyH_ready (rs := [7]) (by kernel_rfl) (by simp) ?_
        refine AllReadyH.cons rfl (fun K hK => ?_) AllReadyH.nil
        go_simp
        refine hK.out _ _ ⟨hM4.1.1, hM4.2.1⟩ (fun hS5 => ?_)
        clear hK K hS
        generalize w4.alloc (.cells #[.int .i64 (z : Nat)] 2) = w5 at *
        obtain ⟨t1, t2, t3, t5, t6⟩ := hM4
        refine wpAnyH_ready (rs := [8]) (by kernel_rfl) (by simp) ?_
        refine AllReadyH.cons rfl (fun K hK => ?_) AllReadyH.nil
        refine ite_go (by kernel_rfl) ?_
        refine wp_push_int (.tmp 36) (.tmp 43) rfl (gX + 1) v (pfF M L p pre) rfl t1.2.1 w4.heap.size 1 (z : Nat) rfl hnew (by have := Hln.out; omega) (by have := t1.1.lt; omega) ?_
        intro v' w6 hO6 hg6 hat6
        obtain ⟨o6, c6, hv6, _⟩ := hO6.view
        generalize (pfF M L p pre ++ [((z : Nat) : Int)]).length = n6 at hv6
        subst hv6
        obtain ⟨p1, p2, p3⟩ := t1.pushed hO6 hg6 hat6
        have p4 := t1.low t5 hg6 (by have := t5.size; omega) (by omega) (.slice o6 n6 c6)
        have hge := ownI_ge t1.2.1
        have pb := t2.same (hg6.block _ t2.lt (fun e => by have := hge _ e.symm; omega))
        have pq := t3.same (hg6.block _ t3.lt (fun e => by have := hge _ e.symm; omega))
        refine hK.out _ _ ⟨p1, pb⟩ (fun hS6 => ?_)
        clear hK K
        refine wpAnyH_done (by kernel_rfl) ?_ _
        refine lastQ_go rfl (fun K hK => ?_)
        have cX := p1.cell 0
        simp at cX
        have fX := p1.free
        go_simp
        refine hK.out _ _ ?_
        gi_wp2
        exact ⟨_, ⟨_, rfl, by rw [HF.out]; exact p2, pb.setOther gX 0 _ (by omega), pq.setOther gX 0 _ (by omega), p4⟩, t6.trans p3⟩
      | _ => exact h.elim
  case done =>
    rintro D ft W' hD ⟨v, x1, x2, x3, x4, x5⟩ hdd hnd
    dsimp only at x1 x2
    obtain ⟨o', c', hve, _⟩ := x2.2.1.view
    subst hve
    have cX := x2.1.cell 0
    simp at cX
    go_wp2
    refine ⟨by simp, .inl ⟨_, _, rfl, run_takeDeferred hdd, ?_⟩⟩
    refine ⟨_, results_tmp2 rfl _ _ _, ?_⟩
    have y5 := x5.trans (belowK_b (w := w) (Nat.le_refl _) W' D _ (.deferred none) (by omega) hdd rfl rfl)
    exact ⟨_, ret_lw Hc.out.symm, by rw [HR.out]; exact (x2.2.1.turn (grownBy_putObj' W' D (.deferred none)) (fun r e => by cases e; exact ⟨_, hdd, rfl⟩)).base_le' (by omega), y5⟩
  case stop =>
    rintro D pre W' _ _ h _
    exact h.elim
end Go.Proofs.YtgeihpaealomkaaDoor

namespace Go.Proofs.YtgeihpaealomkaaDoor
open Go.RowKit

set_option maxRecDepth 100000 in
set_option maxHeartbeats 4000000 in
theorem l03Of_calls (M : Mach) (L S p n : Nat) (hg : Good M L S) (hp : p < S) (hn : n ≤ 4) (w : World) :
    Calls Tryd.prog 31 #[.agg (mc M), .int .i64 p, .int .i64 n] w fun e w' => ∃ v1, e = .returned v1 ∧ OwnI w' w.heap.size v1 (allB (pfV M L p) L n) ∧ Below w.heap.size w w' := by
  have hok := hg.ok
  have F1 : Hid (cut (mc M) 0 98 = mc M) := Lib.hid (cut_all _ _ (mc_size hok)); have F2 : Hid (0 + 98 ≤ (mc M).size) := Lib.hid (by rw [mc_size hok]; omega)
  have hd : L = 2 ∨ L = 3 := by have := hg.L2; have := hg.L3; omega
  have hd3 : L ≤ 3 := by omega
  have hS16 := hg.S16
  have hcL := mc_L M
  rw [hg.hL] at hcL
  have Hms : Hid ((mc M).size = 98) := Lib.hid (mc_size hok)
  have HF := Lib.hid (fun k j => wordS_ok' L k j hd)
  have HSt := Lib.hid (fun l hl => run_st' hg p hp l hl)
  have HAc := Lib.hid (fun s hs hl W => l01Act_calls M L S hg p hp s hs hl W)
  have HPf := Lib.hid (fun q hq => pf_facts M L S q hg hq)
  have Hc3 := Lib.hid (fun q hq => pf_cut3 M hok q hq)
  have HPw := Lib.hid (fun k (hk : k ≤ 4) W => l01Power_calls L k hd3 (by omega) W)
  have HW := Lib.hid (fun k (hk : k ≤ 4) j (hj : j < L ^ k) (W : World) => by
    have := pow_le L k hd3 (by omega)
    exact l01WordOf_calls L hd k (k : Int) (j : Nat) W (by omega) (by omega) (by omega) (by omega) (by omega))
  have HU := Lib.hid (fun k j (hj : j < L ^ k) => upB_next (pfV M L p) L k j hj)
  have HV : Hid (∀ x, pfV M L p x = (pfN M L (runL M p x.data.toList).1 : Int)) := Lib.hid (fun _ => rfl)
  have HR := Lib.hid (upB_row (pfV M L p) L)
  have HE := Lib.hid (upB_all (pfV M L p) L n)
  have HLn := Lib.hid (fun k j (hk : k ≤ 4) => upB_len (pfV M L p) L k j hd3 hk)
  have Hpl := Lib.hid (fun k (hk : k ≤ 4) => pow_le L k hd3 (by omega))
  have hB0 : Blk ((w.alloc (.cells (mc M) 29)).alloc (.cells #[] 2)) w.heap.size (mc M) 29 := (Blk.new w _ _).alloc _
  have hO0 : OwnI ((w.alloc (.cells (mc M) 29)).alloc (.cells #[] 2)) (w.heap.size + 1) (.slice (some ⟨w.heap.size + 1, 0, none⟩) 0 0) (upB (pfV M L p) L 0 0) := by
    rw [upB_start]
    have := OwnI.empty (w.alloc (.cells (mc M) 29)) (w.heap.size + 1) 0 #[] (by simp) (by unfold maxLen; omega) rfl
    simpa using this
  have hbw0 : Below w.heap.size w ((w.alloc (.cells (mc M) 29)).alloc (.cells #[] 2)) := by (repeat (first | exact Below.refl _ _ | refine below_drew' ?_ | refine below_drewN' ?_ _ | refine below_alloc' ?_ _ | refine below_set' ?_ (by (try simp); (try omega)) _ | refine below_step ?_ (by assumption)))
  clear hg
  generalize upB (pfV M L p) L = U at *
  generalize pfV M L p = f at *
  go_enter Tryd.func31, Tryd.ntmps31
  go_wp2_with fail
  go_loopw [7, 8] (fun o i wr => ∃ k : Nat, k ≤ n ∧ i = .int .i64 k ∧ OwnI wr (w.heap.size + 1) o (U k 0) ∧ Blk wr w.heap.size (mc M) 29 ∧ Below w.heap.size w wr) (fun _ i _ => n - (intOf i).toNat)
  case atStart => exact ⟨0, by omega, rfl, hO0, hB0, hbw0⟩
  case round =>
    clear hO0 hbw0 hB0
    obtain ⟨k, hk, rfl, hO, hB, hbw⟩ := hrel
    by_cases hlt : k < n
    · have hki : (k : Int) < (n : Int) := by omega
      have hk4 : k ≤ 4 := by omega
      have HPk := Lib.hid (HPw.out k hk4)
      have HWk := Lib.hid (HW.out k hk4)
      have HFk := Lib.hid (HF.out k)
      have HUk := Lib.hid (HU.out k)
      have HRk := Lib.hid (HR.out k)
      have HLk := Lib.hid (fun j => HLn.out k j hk4)
      have hpl := Hpl.out k hk4
      rw [show pw L k = ((L ^ k : Nat) : Int) from rfl] at HPk
      clear HPw HW HF HU HR HLn Hpl HE
      generalize L ^ k = N at *
      go_wp2
      go_loopw [7, 9] (fun o i wx => ∃ j : Nat, j ≤ N ∧ i = .int .i64 j ∧ OwnI wx (w.heap.size + 1) o (U k j) ∧ Blk wx w.heap.size (mc M) 29 ∧ Below w.heap.size w wx) (fun _ i _ => N - (intOf i).toNat)
      case atStart => exact ⟨0, by omega, rfl, hO, hB, hbw⟩
      case round =>
        clear hO hbw hB
        obtain ⟨j, hj, rfl, hO, hB, hbw⟩ := hrel
        have cB := hB.cell 0
        rw [hcL] at cB
        by_cases hjl : j < N
        · have hji : (j : Int) < (N : Int) := by omega
          have HWj := Lib.hid (HWk.out j hjl)
          rw [Int.toNat_natCast] at HWj
          have hw : (⟨(wordOf L k j).toArray⟩ : ByteArray) = wordS L k j := rfl
          rw [hw] at HWj
          obtain ⟨f1, f2⟩ := HFk.out j
          have hst := HSt.out _ f2
          have HAx := Lib.hid (HAc.out (wordS L k j) (by rw [size_list]; omega) f2)
          obtain ⟨_, _, g3, g4, g5, g6⟩ := HPf.out _ hst
          have HNm := Lib.hid (fun W => l03Number_calls L hd (pfR M (runL M p (wordS L k j).data.toList).1) g6 (pfN M L (runL M p (wordS L k j).data.toList).1) g3 g4 g5 W)
          have Hcq := Lib.hid (Hc3.out _ (Nat.lt_of_lt_of_le hst hS16))
          have Hn := Lib.hid (HUk.out j hjl)
          have Hl := Lib.hid (HLk.out j)
          rw [HV.out] at Hn
          have hs16 : (runL M p (wordS L k j).data.toList).1 < 16 := by omega
          clear f1 f2 g3 g4 g5 g6 HWk HFk HUk HLk hw HV HSt HAc HPf Hc3 hst
          generalize pfN M L (runL M p (wordS L k j).data.toList).1 = z at *
          generalize (⟨(runL M p (wordS L k j).data.toList).2.toArray⟩ : ByteArray) = y at *
          generalize (runL M p (wordS L k j).data.toList).1 = st at *
          generalize wordS L k j = x at *
          have hsi : (st : Int) < 16 := by omega
          go_wp2_with (go_at_call 61; refine (HPk.out _).mono ?_; rintro e w' ⟨rfl, rfl⟩)
          have hdr : Below wr.heap.size wr wr.drew := (Below.refl _ _).drew
          have hBd := hB.keptAll hdr
          have hOd := hO.below hdr
          have hbd := below_step hbw hdr
          refine wp_region_held_drew (S := fun W => Blk W w.heap.size (mc M) 29) (by kernel_rfl) hBd (fun hS => ?_)
          (refine hK_load 0 rfl (by kernel_rfl) (by kernel_rfl) (by kernel_rfl) 29 _ rfl w.heap.size 0 rfl (mc M) _ (fun W hW => hW) 98 F2.out _ Tryd.underlying29 rfl size_mach _ F1.out (fun _ _ _ h => h) rfl hS ?_; (intro K hK; go_simp; refine hK _ ?_; clear hK K))
          (refine hK_take 1 (.int .i64 (p : Int)) rfl (by kernel_rfl) (by kernel_rfl) (by kernel_rfl) (fun _ _ _ h => h) rfl (fun W _ => by go_simp) hS ?_; (intro K hK; go_simp; refine hK _ ?_; clear hK K))
          (refine hK_take 2 (.pointer (some ⟨w.heap.size, 0, none⟩)) rfl (by kernel_rfl) (by kernel_rfl) (by kernel_rfl) (fun _ _ _ h => h) rfl (fun W _ => by go_simp) hS ?_; (intro K hK; go_simp; refine hK _ ?_; clear hK K))
          (refine hK_take 3 (.int .i64 (L : Int)) rfl (by kernel_rfl) (by kernel_rfl) (by kernel_rfl) (fun _ _ _ h => h) rfl (fun W hW => by have c1 := Blk.cell hW 0; rw [hcL] at c1; clear hW; go_simp) hS ?_; (intro K hK; go_simp; refine hK _ ?_; clear hK K))
          (refine hK_take 4 (.int .i64 (k : Int)) rfl (by kernel_rfl) (by kernel_rfl) (by kernel_rfl) (fun _ _ _ h => h) rfl (fun W _ => by go_simp) hS ?_; (intro K hK; go_simp; refine hK _ ?_; clear hK K))
          (refine hK_take 5 (.int .i64 (j : Int)) rfl (by kernel_rfl) (by kernel_rfl) (by kernel_rfl) (fun _ _ _ h => h) rfl (fun W _ => by go_simp) hS ?_; (intro K hK; go_simp; refine hK _ ?_; clear hK K))
          (refine wpAnyH_ready (rs := [6]) (by kernel_rfl) (by simp) ?_; refine AllReadyH.cons rfl (fun K hK => ?_) AllReadyH.nil); go_simp; refine (HWj.out _).mono ?_; rintro e w2 ⟨rfl, hb2⟩
          (go_simp; refine hK.out _ _ (Blk.keptAll hS hb2) (fun hS => ?_); clear hK K)
          have hO2 := hOd.below hb2
          have hbw2 := below_step hbd hb2
          (refine wpAnyH_ready (rs := [7]) (by kernel_rfl) (by simp) ?_; refine AllReadyH.cons rfl (fun K hK => ?_) AllReadyH.nil); go_simp; refine (HAx.out _).mono ?_; rintro e w3 ⟨rfl, hb3⟩
          (go_simp; refine hK.out _ _ (Blk.keptAll hS hb3) (fun hS => ?_); clear hK K)
          have hO3 := hO2.below hb3
          have hbw3 := below_step hbw2 hb3
          (refine hK_take 8 (.tuple #[.string y, .int .i64 (st : Nat)]) rfl (by kernel_rfl) (by kernel_rfl) (by kernel_rfl) (fun _ _ _ h => h) rfl (fun W _ => by go_simp) hS ?_; (intro K hK; go_simp; refine hK _ ?_; clear hK K))
          (refine hK_take 9 (.string y) rfl (by kernel_rfl) (by kernel_rfl) (by kernel_rfl) (fun _ _ _ h => h) rfl (fun W _ => by go_simp) hS ?_; (intro K hK; go_simp; refine hK _ ?_; clear hK K))
          (refine hK_take 10 (.int .i64 (st : Nat)) rfl (by kernel_rfl) (by kernel_rfl) (by kernel_rfl) (fun _ _ _ h => h) rfl (fun W _ => by go_simp) hS ?_; (intro K hK; go_simp; refine hK _ ?_; clear hK K))
          (refine hK_take 11 (.string y) rfl (by kernel_rfl) (by kernel_rfl) (by kernel_rfl) (fun _ _ _ h => h) rfl (fun W _ => by go_simp) hS ?_; (intro K hK; go_simp; refine hK _ ?_; clear hK K))
          (refine hK_take 12 (.int .i64 (st : Nat)) rfl (by kernel_rfl) (by kernel_rfl) (by kernel_rfl) (fun _ _ _ h => h) rfl (fun W _ => by go_simp) hS ?_; (intro K hK; go_simp; refine hK _ ?_; clear hK K))
          refine wpAnyH_done (by kernel_rfl) ?_ _
          clear hO2 hbw2 hOd hbd hBd cB
          go_wp2_with fail
          have hdr3 : Below w3.heap.size w3 w3.drew := (Below.refl _ _).drew
          have hO3d := hO3.below hdr3
          have hb3d := below_step hbw3 hdr3
          refine wp_region_held_drew (S := fun W => Blk W w.heap.size (mc M) 29) (by kernel_rfl) (Blk.keptAll hS hdr3) (fun hS => ?_)
          (refine hK_take 0 (u7) rfl (by kernel_rfl) (by kernel_rfl) (by kernel_rfl) (fun _ _ _ h => h) rfl (fun W _ => by go_simp) hS ?_; (intro K hK; go_simp; refine hK _ ?_; clear hK K))
          (refine hK_take 1 (.pointer (some ⟨w.heap.size, 0, none⟩)) rfl (by kernel_rfl) (by kernel_rfl) (by kernel_rfl) (fun _ _ _ h => h) rfl (fun W _ => by go_simp) hS ?_; (intro K hK; go_simp; refine hK _ ?_; clear hK K))
          (refine hK_take 2 (.int .i64 (L : Int)) rfl (by kernel_rfl) (by kernel_rfl) (by kernel_rfl) (fun _ _ _ h => h) rfl (fun W hW => by have c1 := Blk.cell hW 0; rw [hcL] at c1; clear hW; go_simp) hS ?_; (intro K hK; go_simp; refine hK _ ?_; clear hK K))
          (refine hK_take 3 (.int .i64 (st : Nat)) rfl (by kernel_rfl) (by kernel_rfl) (by kernel_rfl) (fun _ _ _ h => h) rfl (fun W _ => by go_simp) hS ?_; (intro K hK; go_simp; refine hK _ ?_; clear hK K))
          (refine hK_take 4 (.pointer (some ⟨w.heap.size, 50, none⟩)) rfl (by kernel_rfl) (by kernel_rfl) (by kernel_rfl) (fun _ _ _ h => h) rfl (fun W _ => by go_simp) hS ?_; (intro K hK; go_simp; refine hK _ ?_; clear hK K))
          (refine hK_take 5 (.pointer (some ⟨w.heap.size, 50 + st * 3, none⟩)) rfl (by kernel_rfl) (by kernel_rfl) (by kernel_rfl) (fun _ _ _ h => h) rfl (fun W _ => by go_simp) hS ?_; (intro K hK; go_simp; refine hK _ ?_; clear hK K))
          (refine hK_load 6 rfl (by kernel_rfl) (by kernel_rfl) (by kernel_rfl) 22 _ rfl w.heap.size (50 + st * 3) rfl (mc M) _ (fun W hW => hW) 3 (by rw [Hms.out]; omega) _ Tryd.underlying22 rfl (zero_of_info info_b3).2 _ Hcq.out (fun _ _ _ h => h) rfl hS ?_; (intro K hK; go_simp; refine hK _ ?_; clear hK K))
          (refine wpAnyH_ready (rs := [7]) (by kernel_rfl) (by simp) ?_; refine AllReadyH.cons rfl (fun K hK => ?_) AllReadyH.nil); go_simp; refine (HNm.out _).mono ?_; rintro e w4 ⟨rfl, hb4⟩
          (go_simp; refine hK.out _ _ (Blk.keptAll hS hb4) (fun hS => ?_); clear hK K)
          have hO4 := hO3d.below hb4
          have hbw4 := below_step hb3d hb4
          have hbA : Below w4.heap.size w4 (w4.alloc (.cells #[.int .i64 (z : Nat)] 2)) := by (repeat (first | exact Below.refl _ _ | refine below_drew' ?_ | refine below_drewN' ?_ _ | refine below_alloc' ?_ _ | refine below_set' ?_ (by (try simp); (try omega)) _ | refine below_step ?_ (by assumption)))
          have hnew : Blk (w4.alloc (.cells #[.int .i64 (z : Nat)] 2)) w4.heap.size #[.int .i64 (z : Nat)] 2 := Blk.new _ _ _
          have hO5 := hO4.below hbA
          have hbw5 := below_step hbw4 hbA
          have hB5 : Blk (w4.alloc (.cells #[.int .i64 (z : Nat)] 2)) w.heap.size (mc M) 29 := Blk.keptAll hS hbA
          refine wpAnyH_ready (rs := [8]) (by kernel_rfl) (by simp) ?_
          refine AllReadyH.cons rfl (fun K hK => ?_) AllReadyH.nil
          go_simp
          refine hK.out _ _ hB5 (fun hS5 => ?_)
          clear hK K hS
          generalize w4.alloc (.cells #[.int .i64 (z : Nat)] 2) = w5 at *
          refine wpAnyH_ready (rs := [9]) (by kernel_rfl) (by simp) ?_
          refine AllReadyH.cons rfl (fun K hK => ?_) AllReadyH.nil
          refine ite_go (by kernel_rfl) ?_
          refine wp_push_int (.tmp 37) (.tmp 45) rfl (w.heap.size + 1) u7 (U k j) rfl hO5 w4.heap.size 1 (z : Nat) rfl hnew (by have := Hl.out; omega) (by have := hB5.lt; omega) ?_
          intro v' w6 hO6 hg6 hat6
          have hge := ownI_ge hO5
          have hB6 := hB5.same (hg6.block _ hB5.lt (fun e => by have := hge _ e.symm; omega))
          have hbw6 : Below w.heap.size w w6 := hbw5.grown hg6 hbw5.size (fun k e => by have := hge k e; omega)
          rw [← Hn.out] at hO6
          refine hK.out _ _ hB6 (fun hS6 => ?_)
          clear hK K
          (refine hK_take 10 (v') rfl (by kernel_rfl) (by kernel_rfl) (by kernel_rfl) (fun _ _ _ h => h) rfl (fun W _ => by go_simp) hS6 ?_; (intro K hK; go_simp; refine hK _ ?_; clear hK K))
          refine wpAnyH_done (by kernel_rfl) ?_ _
          go_wp2
          go_roundw
          case rel => exact ⟨j + 1, by omega, by go_num, hO6, hB6, hbw6⟩
          case measure => simp [intOf] <;> omega
        · obtain rfl : j = N := by omega
          go_wp2_with (go_at_call 61; refine (HPk.out _).mono ?_; rintro e w' ⟨rfl, rfl⟩)
          rw [HRk.out] at hO
          go_roundw
          case rel => exact ⟨k + 1, by omega, by go_num, hO, hB, hbw⟩
          case measure => simp [intOf] <;> omega
    · obtain rfl : k = n := by omega
      go_wp2
      go_ret
      exact ⟨_, rfl, by rw [← HE.out]; exact hO.base_le' (by omega), hbw⟩

set_option maxRecDepth 100000 in
set_option maxHeartbeats 1000000 in
theorem sPortraitOf_calls (M : Mach) (hok : M.Ok) (q n : Int) (w : World) :
    Calls Tryd.prog 10 #[.agg (mc M), .int .i64 q, .int .i64 n] w fun e w' => ∃ v1, e = .returned (.tuple #[v1, .int .i64 (pfC M q n)]) ∧ OwnI w' w.heap.size v1 (pfL M q n) ∧ Below w.heap.size w w' := by
  have F1 : Hid (cut (mc M) 0 98 = mc M) := Lib.hid (cut_all _ _ (mc_size hok)); have F2 : Hid (0 + 98 ≤ (mc M).size) := Lib.hid (by rw [mc_size hok]; omega)
  have hB : Blk (w.alloc (.cells (mc M) 29)) w.heap.size (mc M) 29 := Blk.new w _ _
  have hbw : Below w.heap.size w (w.alloc (.cells (mc M) 29)) := by (repeat (first | exact Below.refl _ _ | refine below_drew' ?_ | refine below_drewN' ?_ _ | refine below_alloc' ?_ _ | refine below_set' ?_ (by (try simp); (try omega)) _ | refine below_step ?_ (by assumption)))
  cases hm : isMach M
  · have Hc : Hid (pfC M q n = 1) := Lib.hid (by simp [pfC, hm])
    have HR : Hid (pfL M q n = []) := Lib.hid (by unfold pfL; rw [Hc.out]; rfl)
    go_enter Tryd.func10, Tryd.ntmps10
    go_wp2_with (first | (with_reducible show wpList _ _ _ _ _ _; refine wpList_load_blk rfl 29 (.tmp 3) rfl w.heap.size 0 rfl (mc M) _ (hB) 98 F2.out _ Tryd.underlying29 rfl size_mach ?_; rw [F1.out]) | (go_at_call 29; refine (l01Is_calls M hok _).mono ?_; rintro e w1 ⟨rfl, hb1⟩; rw [hm]))
    go_ret2
    exact ⟨_, ret_lw Hc.out.symm, by rw [HR.out]; exact OwnI.nil _ _, below_step hbw hb1⟩
  obtain ⟨L, S, hg⟩ := Good.of hok hm
  have hS1 := hg.S1
  have hS16 := hg.S16
  have hSS := hg.hS
  have hcS := mc_S M
  rw [hSS] at hcS
  have hws : IntKind.i64.wrap ((S : Int) - 1) = (S : Int) - 1 := IntWalk.i64_in _ (by omega)
  have hqe : decide (0 ≤ q ∧ q ≤ (S : Int) - 1) = decide (0 ≤ q ∧ q < M.S) := by rw [hSS]; apply Bool.eq_iff_iff.2; simp; omega
  have hne : decide (1 ≤ n ∧ n ≤ 4) = (decide (1 ≤ n) && decide (n ≤ 4)) := by apply Bool.eq_iff_iff.2; simp
  have T1 := Lib.hid trivial
  cases hq : decide (0 ≤ q ∧ q < M.S)
  · have Hc : Hid (pfC M q n = 2) := Lib.hid (by simp [pfC, hm, hq])
    have HR : Hid (pfL M q n = []) := Lib.hid (by unfold pfL; rw [Hc.out]; rfl)
    rw [hq] at hqe
    have HI := Lib.hid (fun W => (l01In_calls q 0 ((S : Int) - 1) W))
    rw [hqe] at HI
    clear hq hqe hne
    go_enter Tryd.func10, Tryd.ntmps10
    go_wp2_with (first | (with_reducible show wpList _ _ _ _ _ _; refine wpList_load_blk rfl 29 (.tmp 3) rfl w.heap.size 0 rfl (mc M) _ (hB) 98 F2.out _ Tryd.underlying29 rfl size_mach ?_; rw [F1.out]) | (go_at_call 29; refine (l01Is_calls M hok _).mono ?_; rintro e w1 ⟨rfl, hb1⟩; have hB1 := hB.keptAll hb1; have cA := hB1.cell 1; rw [hcS] at cA; rw [hm]) | (go_at_call 30; refine (HI.out _).mono ?_; rintro e w' ⟨rfl, rfl⟩))
    go_ret2
    exact ⟨_, ret_lw Hc.out.symm, by rw [HR.out]; exact OwnI.nil _ _, below_step hbw hb1⟩
  rw [hq] at hqe
  cases hn : (decide (1 ≤ n) && decide (n ≤ 4))
  · have Hc : Hid (pfC M q n = 2) := Lib.hid (by unfold pfC; rw [hm, hq, hn]; rfl)
    have HR : Hid (pfL M q n = []) := Lib.hid (by unfold pfL; rw [Hc.out]; rfl)
    rw [hn] at hne
    have HI := Lib.hid (fun W => (l01In_calls q 0 ((S : Int) - 1) W))
    rw [hqe] at HI
    have HJ := Lib.hid (fun W => (l01In_calls n 1 4 W))
    rw [hne] at HJ
    clear hq hqe hne hn
    go_enter Tryd.func10, Tryd.ntmps10
    go_wp2_with (first | (with_reducible show wpList _ _ _ _ _ _; refine wpList_load_blk rfl 29 (.tmp 3) rfl w.heap.size 0 rfl (mc M) _ (hB) 98 F2.out _ Tryd.underlying29 rfl size_mach ?_; rw [F1.out]) | (go_at_call 29; refine (l01Is_calls M hok _).mono ?_; rintro e w1 ⟨rfl, hb1⟩; have hB1 := hB.keptAll hb1; have cA := hB1.cell 1; rw [hcS] at cA; rw [hm]) | (go_at_call 30; first | (clear T1; refine (HI.out _).mono ?_; rintro e w' ⟨rfl, rfl⟩) | (refine (HJ.out _).mono ?_; rintro e w' ⟨rfl, rfl⟩)))
    go_ret2
    exact ⟨_, ret_lw Hc.out.symm, by rw [HR.out]; exact OwnI.nil _ _, below_step hbw hb1⟩
  have Hc : Hid (pfC M q n = 0) := Lib.hid (by unfold pfC; rw [hm, hq, hn]; rfl)
  have HR : Hid (pfL M q n = allB (pfV M M.L.toNat q.toNat) M.L.toNat n.toNat) := Lib.hid (by unfold pfL; rw [if_pos Hc.out])
  obtain ⟨_, k2, k3⟩ := pfC_zero M q n Hc.out
  rw [hg.hL, Int.toNat_natCast] at HR
  rw [hn] at hne
  obtain ⟨m, rfl⟩ := Int.eq_ofNat_of_zero_le (a := n) (by omega)
  obtain ⟨p, rfl⟩ := Int.eq_ofNat_of_zero_le (a := q) (by omega)
  rw [Int.toNat_natCast] at *
  rw [Int.toNat_natCast] at *
  have HO := Lib.hid (fun W => l03Of_calls M L S p m hg (by omega) (by omega) W)
  have HI := Lib.hid (fun W => (l01In_calls p 0 ((S : Int) - 1) W))
  rw [hqe] at HI
  have HJ := Lib.hid (fun W => (l01In_calls m 1 4 W))
  rw [hne] at HJ
  clear hq hqe hne hn k2 k3 hSS
  go_enter Tryd.func10, Tryd.ntmps10
  go_wp2_with (first | (with_reducible show wpList _ _ _ _ _ _; refine wpList_load_blk rfl 29 (.tmp 3) rfl w.heap.size 0 rfl (mc M) _ (by first | exact hB1 | exact hB) 98 F2.out _ Tryd.underlying29 rfl size_mach ?_; rw [F1.out]) | (go_at_call 29; refine (l01Is_calls M hok _).mono ?_; rintro e w1 ⟨rfl, hb1⟩; have hB1 := hB.keptAll hb1; have cA := hB1.cell 1; rw [hcS] at cA; rw [hm]) | (go_at_call 30; first | (clear T1; refine (HI.out _).mono ?_; rintro e w' ⟨rfl, rfl⟩) | (refine (HJ.out _).mono ?_; rintro e w' ⟨rfl, rfl⟩)) | (go_at_call 31; refine (HO.out _).mono ?_; rintro e w2 ⟨v1, rfl, hO2, hb2⟩))
  go_ret2
  have hbw1 := below_step hbw hb1
  exact ⟨_, ret_lw Hc.out.symm, by rw [HR.out]; exact hO2.base_le' hbw1.size, below_step hbw1 hb2⟩
end Go.Proofs.YtgeihpaealomkaaDoor
