/- 'OrderOnLevel': the program; 'l04Code'. -/
import Derived.Test.YticnpajbefflbaaOlD
import Derived.Test.YticnpajbefflbaaOim
import Derived.Test.YticnpajbefflbaaPerT
namespace Go.Proofs.Yticnpajbefflbaa
open Go.RowKit

def olR (M : Mach) (zs : List Int) (n : Int) : Int := if isGrp M zs = true ∧ (0 ≤ n ∧ n ≤ 5) then (ordL (cycL (permG M zs M.L.toNat n.toNat)) : Nat) else 0
theorem ret_ol {a b i j : Int} (h : a = b) (h' : i = j) : Ending.returned (.tuple #[.int .i64 a, .int .i64 i]) = Ending.returned (.tuple #[.int .i64 b, .int .i64 j]) := by rw [h, h']
theorem ret_i1 {i j : Int} (h : i = j) : Ending.returned (.int .i64 i) = Ending.returned (.int .i64 j) := by rw [h]
/-- What stands behind the code 0. -/
theorem permGC_zero {M : Mach} (hok : M.Ok) {zs : List Int} {n : Int} (h : permGC M zs n = 0) : ∃ L S nn : Nat, Good M L S ∧ n = (nn : Int) ∧ nn ≤ 5 ∧ numsOk S zs = true ∧ zs.length ≤ 40 ∧ permGR M zs n = permG M zs L nn ∧ olR M zs n = (ordL (cycL (permG M zs L nn)) : Nat) := by
  unfold permGC at h
  split at h
  · rename_i hm
    split at h
    · rename_i hn
      obtain ⟨L, S, hg⟩ := Good.of hok (isGrp_mach hm).1
      have h2 := (isGrp_mach hm).2
      rw [hg.hS] at h2
      obtain ⟨nn, rfl⟩ := Int.eq_ofNat_of_zero_le hn.1
      refine ⟨L, S, nn, hg, rfl, by omega, (grpOk_nums h2).2, (grpOk_nums h2).1, ?_, ?_⟩
      · unfold permGR; rw [if_pos ⟨hm, hn⟩, hg.hL]; rfl
      · unfold olR; rw [if_pos ⟨hm, hn⟩, hg.hL]; rfl
    · exact absurd h (by omega)
  · exact absurd h (by omega)
theorem olR_bad {M : Mach} {zs : List Int} {n : Int} (h : permGC M zs n ≠ 0) : olR M zs n = 0 := by
  unfold olR
  rw [if_neg]
  rintro ⟨hm, hn⟩
  exact h (by unfold permGC; rw [if_pos hm, if_pos hn])

set_option maxRecDepth 100000 in
set_option maxHeartbeats 1000000 in
theorem iOrderOnLevel_calls (M : Mach) (hok : M.Ok) (v : Value) (zs : List Int) (n : Int) (w : World) (hv : SeesI w v zs) :
    Calls Try.prog 12 #[.agg (mc M), v, .int .i64 n] w fun e w' => e = .returned (.tuple #[.int .i64 (olR M zs n), .int .i64 (permGC M zs n)]) ∧ Below w.heap.size w w' := by
  have F1 : Hid (cut (mc M) 0 98 = mc M) := Lib.hid (cut_all _ _ (mc_size hok)); have F2 : Hid (0 + 98 ≤ (mc M).size) := Lib.hid (by rw [mc_size hok]; omega)
  have hB : Blk (w.alloc (.cells (mc M) 29)) w.heap.size (mc M) 29 := Blk.new w _ _
  have hbw0 : Below w.heap.size w (w.alloc (.cells (mc M) 29)) := by (repeat (first | exact Below.refl _ _ | refine below_drew' ?_ | refine below_drewN' ?_ _ | refine below_alloc' ?_ _ | refine below_set' ?_ (by (try simp); (try omega)) _ | refine below_step ?_ (by assumption)))
  have HP := Lib.hid (iPermutationOf_calls M hok v zs n (w.alloc (.cells (mc M) 29)) (hv.below hbw0))
  clear hv
  by_cases hc : permGC M zs n = 0
  · obtain ⟨L, S, nn, hg, rfl, hn5, hz, h40, e1, e2⟩ := permGC_zero hok hc
    rw [hc, e1] at HP
    rw [hc, e2]
    obtain ⟨c1, c2⟩ := permG_cyc hg zs hz nn hn5
    have Hoi := Lib.hid (fun v W h => orderOfImages_calls v (permG M zs L nn) (permG_in hg zs hz nn) (by rw [permG, permGK_len]; exact Nat.le_trans (pow_le L nn hg.L3 hn5) (by omega)) (ord_step6 _ c1 c2) W h)
    clear hc e1 e2 c1 c2 hz h40
    generalize permG M zs L nn = im at *
    go_enter Try.func12, Try.ntmps12
    go_wp2_with (first | (with_reducible show wpList _ _ _ _ _ _; refine wpList_load_blk rfl 29 (.tmp 3) rfl w.heap.size 0 rfl (mc M) _ (hB) 98 F2.out _ Try.underlying29 rfl size_mach ?_; rw [F1.out]) | (go_at_call 36; refine HP.out.mono ?_; rintro e w1 ⟨v1, rfl, hO1, hb1⟩; have hs1 := hO1.sees; have hbw1 := below_step hbw0 hb1; obtain ⟨o1, c1, rfl, hq⟩ := hO1.view; clear hq hO1) | (go_at_call 37; refine (Hoi.out _ _ hs1).mono ?_; rintro e w2 ⟨rfl, hb2⟩))
    go_ret2
    exact ⟨rfl, below_step hbw1 hb2⟩
  · have Hr := Lib.hid (olR_bad hc)
    obtain ⟨c, hcc⟩ : ∃ c, permGC M zs n = c := ⟨_, rfl⟩
    rw [hcc] at hc HP ⊢
    rw [Hr.out]
    have hcb : (c != 0) = true := by simpa using hc
    clear hc hcc
    go_enter Try.func12, Try.ntmps12
    go_wp2_with (first | (with_reducible show wpList _ _ _ _ _ _; refine wpList_load_blk rfl 29 (.tmp 3) rfl w.heap.size 0 rfl (mc M) _ (hB) 98 F2.out _ Try.underlying29 rfl size_mach ?_; rw [F1.out]) | (go_at_call 36; refine HP.out.mono ?_; rintro e w1 ⟨v1, rfl, hO1, hb1⟩))
    go_ret2
    exact ⟨rfl, below_step hbw0 hb1⟩

set_option maxRecDepth 100000 in
set_option maxHeartbeats 1000000 in
theorem l04Code_calls (M : Mach) (hok : M.Ok) (v : Value) (zs : List Int) (n : Int) (w : World) (hv : SeesI w v zs) :
    Calls Try.prog 32 #[.agg (mc M), v, .int .i64 n] w fun e w' => e = .returned (.int .i64 (permGC M zs n)) ∧ Below w.heap.size w w' := by
  have F1 : Hid (cut (mc M) 0 98 = mc M) := Lib.hid (cut_all _ _ (mc_size hok)); have F2 : Hid (0 + 98 ≤ (mc M).size) := Lib.hid (by rw [mc_size hok]; omega)
  have hB : Blk (w.alloc (.cells (mc M) 29)) w.heap.size (mc M) 29 := Blk.new w _ _
  have hbw0 : Below w.heap.size w (w.alloc (.cells (mc M) 29)) := by (repeat (first | exact Below.refl _ _ | refine below_drew' ?_ | refine below_drewN' ?_ _ | refine below_alloc' ?_ _ | refine below_set' ?_ (by (try simp); (try omega)) _ | refine below_step ?_ (by assumption)))
  have hvB := hv.below hbw0
  have hL1 := sees_one hvB
  rw [show (w.alloc (.cells (mc M) 29)).heap.size = w.heap.size + 1 from by simp] at hL1
  have hB0 := hB.alloc (.cells #[v] 26)
  have hbw1 := below_alloc' hbw0 (.cells #[v] 26)
  obtain ⟨oa, cap, rfl, hc⟩ := hv.view
  clear hv hc hvB
  cases hm : isGrp M zs
  · have Hc : Hid (permGC M zs n = 1) := Lib.hid (by simp [permGC, hm])
    go_enter Try.func32, Try.ntmps32
    go_wp2_with (first | (with_reducible show wpList _ _ _ _ _ _; refine wpList_load_blk rfl 29 (.tmp 3) rfl w.heap.size 0 rfl (mc M) _ (hB) 98 F2.out _ Try.underlying29 rfl size_mach ?_; rw [F1.out]) | (go_at_call 58; refine (l02Code_one M hok _ _ zs _ hm _ hL1).mono ?_; rintro e w1 ⟨rfl, hb1⟩; simp only [Bool.false_eq_true, if_false]))
    go_ret
    exact ⟨ret_i1 Hc.out.symm, below_step hbw1 hb1⟩
  · cases hn : decide (0 ≤ n ∧ n ≤ 5)
    · have Hc : Hid (permGC M zs n = 2) := Lib.hid (by unfold permGC; rw [if_pos hm, if_neg (by simpa using hn)])
      go_enter Try.func32, Try.ntmps32
      go_wp2_with (first | (with_reducible show wpList _ _ _ _ _ _; refine wpList_load_blk rfl 29 (.tmp 3) rfl w.heap.size 0 rfl (mc M) _ (by first | exact hB1 | exact hB) 98 F2.out _ Try.underlying29 rfl size_mach ?_; rw [F1.out]) | (go_at_call 58; refine (l02Code_one M hok _ _ zs _ hm _ hL1).mono ?_; rintro e w1 ⟨rfl, hb1⟩; simp only [if_true]; have hB1 := hB0.keptAll hb1; have hbw2 := below_step hbw1 hb1) | (go_at_call 48; refine (l01In_yes _ _ _ _ hn _).mono ?_; rintro e w' ⟨rfl, rfl⟩))
      go_ret
      exact ⟨ret_i1 Hc.out.symm, hbw2⟩
    · have Hc : Hid (permGC M zs n = 0) := Lib.hid (by unfold permGC; rw [if_pos hm, if_pos (by simpa using hn)])
      go_enter Try.func32, Try.ntmps32
      go_wp2_with (first | (with_reducible show wpList _ _ _ _ _ _; refine wpList_load_blk rfl 29 (.tmp 3) rfl w.heap.size 0 rfl (mc M) _ (by first | exact hB1 | exact hB) 98 F2.out _ Try.underlying29 rfl size_mach ?_; rw [F1.out]) | (go_at_call 58; refine (l02Code_one M hok _ _ zs _ hm _ hL1).mono ?_; rintro e w1 ⟨rfl, hb1⟩; simp only [if_true]; have hB1 := hB0.keptAll hb1; have hbw2 := below_step hbw1 hb1) | (go_at_call 48; refine (l01In_yes _ _ _ _ hn _).mono ?_; rintro e w' ⟨rfl, rfl⟩))
      go_ret
      exact ⟨ret_i1 Hc.out.symm, hbw2⟩
end Go.Proofs.Yticnpajbefflbaa
