/- Reversible machines: 'leadsStatesApart' and 'l07Reversible'. -/
import Derived.Test.YtolkfoecnmjofaaTriS
import Derived.Test.YtolkfoecnmjofaaMachD
import Derived.Test.YtolkfoecnmjofaaInvP
namespace Go.Proofs.Ytolkfoecnmjofaa
open Go.RowKit

/-- Which states the first k states go on to at x. -/
def metL (M : Mach) (x k : Nat) : List Bool := (List.range 16).map fun i => (List.range k).any fun p => decide (nn M p x = i)
theorem metL_len (M : Mach) (x k : Nat) : (metL M x k).length = 16 := by simp [metL]
theorem metL_zero (M : Mach) (x : Nat) : metL M x 0 = nob := by simp [metL, nob]; rfl
theorem metL_at (M : Mach) (x k i : Nat) (h : i < (metL M x k).length) : (metL M x k)[i] = (List.range k).any fun p => decide (nn M p x = i) := by
  simp only [metL, List.getElem_map, List.getElem_range]
theorem metL_set (M : Mach) (x k : Nat) : (metL M x k).set (nn M k x) true = metL M x (k + 1) := by
  apply List.ext_getElem
  · rw [List.length_set, metL_len, metL_len]
  · intro i h1 h2
    rw [List.getElem_set, metL_at, metL_at, List.range_succ, List.any_append, List.any_cons, List.any_nil, Bool.or_false]
    by_cases h : nn M k x = i
    · rw [if_pos h, decide_eq_true h, Bool.or_true]
    · rw [if_neg h, decide_eq_false h, Bool.or_false]
/-- Do the first k states go on to different states at x? -/
def revTo (M : Mach) (x k : Nat) : Bool := (List.range k).all fun q => !(metL M x q).getD (nn M q x) false
def revB (M : Mach) (L S : Nat) : Bool := (List.range L).all fun x => revTo M x S
theorem revTo_succ (M : Mach) (x k : Nat) : revTo M x (k + 1) = (revTo M x k && !(metL M x k).getD (nn M k x) false) := by simp [revTo, List.range_succ]
theorem revB_succ (M : Mach) (k S : Nat) : revB M (k + 1) S = (revB M k S && revTo M k S) := by simp [revB, List.range_succ]
theorem rev_bad {M : Mach} {L S x k : Nat} (hx : x < L) (hk : k < S) (h : (metL M x k).getD (nn M k x) false = true) : revB M L S = false := by
  unfold revB
  rw [List.all_eq_false]
  refine ⟨x, by simpa using hx, ?_⟩
  simp only [Bool.not_eq_true]
  unfold revTo
  rw [List.all_eq_false]
  exact ⟨k, by simpa using hk, by rw [h]; decide⟩

set_option maxRecDepth 100000 in
set_option maxHeartbeats 2000000 in
theorem leadsStatesApart_calls (M : Mach) (L S : Nat) (hg : Good M L S) (w : World) :
    Calls Try.prog 39 #[.agg (mc M)] w fun e w' => e = .returned (.bool (revB M L S)) ∧ Below w.heap.size w w' := by
  have hok := hg.ok
  have hS16 := hg.S16
  have hL3 := hg.L3
  have hcL := mc_L M
  have hcS := mc_S M
  rw [hg.hL] at hcL
  rw [hg.hS] at hcS
  have hz := zero_b16
  have Hg := Lib.hid hg
  have hB : Blk (w.alloc (.cells (mc M) 28)) w.heap.size (mc M) 28 := Blk.new w _ _
  clear hg
  go_enter Try.func39, Try.ntmps39
  go_wp2
  go_loopw [9] (fun i wr => ∃ k : Nat, k ≤ L ∧ i = .int .i64 k ∧ Blk wr w.heap.size (mc M) 28 ∧ Below w.heap.size w wr ∧ Hid (revB M k S = true)) (fun i _ => L - (intOf i).toNat)
  case atStart => exact ⟨0, by omega, rfl, hB, by (repeat (first | exact Below.refl _ _ | refine below_drew' ?_ | refine below_drewN' ?_ _ | refine below_alloc' ?_ _ | refine below_set' ?_ (by (try simp); (try omega)) _ | refine below_step ?_ (by assumption))), Lib.hid rfl⟩
  case round =>
    clear hB
    obtain ⟨k, hk, rfl, hB, hbw, HR⟩ := hrel
    have cA := hB.cell
    by_cases hlk : k < L
    · obtain ⟨wo, rfl⟩ : ∃ wo : World, wo = wr := ⟨_, rfl⟩
      have hB1 := hB.alloc (.cells (bl nob) 75)
      have hC1 : Blk (wo.alloc (.cells (bl nob) 75)) wo.heap.size (bl nob) 75 := Blk.new wo _ _
      have hbw1 := below_alloc' hbw (.cells (bl nob) 75)
      have hlt0 := hB.lt
      have hsz0 := hbw.size
      go_wp2
      go_loopw [14] (fun i wr => ∃ j : Nat, j ≤ S ∧ i = .int .i64 j ∧ Blk wr w.heap.size (mc M) 28 ∧ Blk wr wo.heap.size (bl (metL M k j)) 75 ∧ Below w.heap.size w wr ∧ Hid (revTo M k j = true)) (fun i _ => S - (intOf i).toNat)
      case atStart => exact ⟨0, by omega, rfl, hB1, by rw [metL_zero]; exact hC1, hbw1, Lib.hid rfl⟩
      case round =>
        clear hB hB1 hC1 hbw hbw1 cA
        obtain ⟨j, hj, rfl, hB, hC, hbw, HT⟩ := hrel
        have cA := hB.cell
        have cC := hC.cell
        have fC := hC.free
        by_cases hlj : j < S
        · have hn := mc_n hok j k (by omega) (by omega)
          have hnn := Hg.out.nn_lt j k hlj hlk
          rw [Hg.out.nn_eq j k hlj hlk] at hn
          have Hset := Lib.hid (metL_set M k j)
          have hat := bl_at (metL M k j) (nn M j k) (by rw [metL_len]; omega)
          obtain ⟨b, hb⟩ : ∃ b, (metL M k j).getD (nn M j k) false = b := ⟨_, rfl⟩
          have Hb := Lib.hid hb
          rw [hb] at hat
          clear hb
          obtain ⟨y, hy⟩ : ∃ y, y = nn M j k := ⟨_, rfl⟩
          rw [← hy] at hn hnn Hset hat Hb
          have Hy := Lib.hid hy; clear hy
          cases b
          · have hT : Hid (revTo M k (j + 1) = true) := Lib.hid (by rw [revTo_succ, HT.out, ← Hy.out, Hb.out]; rfl)
            go_wp2
            go_roundw
            case rel => exact ⟨j + 1, by omega, by go_num, hB.setOther _ _ _ (by omega), by rw [← Hset.out, bl_set]; exact hC.set _ _, below_set' hbw (by omega) _, hT⟩
            case measure => simp [intOf] <;> omega
          · have Hbad := Lib.hid (rev_bad (M := M) (L := L) (S := S) hlk hlj (by rw [← Hy.out]; exact Hb.out))
            go_wp2
            go_ret
            exact ⟨ret_bool Hbad.out.symm, hbw⟩
        · obtain rfl : j = S := by omega
          go_wp2
          go_roundw
          case rel => exact ⟨k + 1, by omega, by go_num, hB, hbw, Lib.hid (by rw [revB_succ, HR.out, HT.out]; rfl)⟩
          case measure => simp [intOf] <;> omega
    · obtain rfl : k = L := by omega
      go_wp2
      go_ret
      exact ⟨ret_bool HR.out.symm, hbw⟩
set_option maxRecDepth 100000 in
set_option maxHeartbeats 2000000 in
theorem l07Reversible_calls (M : Mach) (L S : Nat) (hg : Good M L S) (w : World) :
    Calls Try.prog 36 #[.agg (mc M)] w fun e w' => e = .returned (.bool (revB M L S)) ∧ Below w.heap.size w w' := by
  have hok := hg.ok
  have hS16 := hg.S16
  have hL3 := hg.L3
  have hcL := mc_L M
  have hcS := mc_S M
  rw [hg.hL] at hcL
  rw [hg.hS] at hcS
  have hz := zero_b16
  have Hg := Lib.hid hg
  have Hz16 : Hid ((bl nob).size = 16) := Lib.hid (by rw [bl_size]; rfl)
  have Hzo : Hid (over (bl nob) 0 (bl nob) = bl nob) := Lib.hid (over_all _ _ rfl)
  have hB : Blk (w.alloc (.cells (mc M) 28)) w.heap.size (mc M) 28 := Blk.new w _ _
  clear hg
  go_enter Try.func36, Try.ntmps36
  go_wp2
  go_loopw [3] (fun i wr => ∃ k : Nat, k ≤ L ∧ i = .int .i64 k ∧ Blk wr w.heap.size (mc M) 28 ∧ Below w.heap.size w wr ∧ Hid (revB M k S = true)) (fun i _ => L - (intOf i).toNat)
  case atStart => exact ⟨0, by omega, rfl, hB, by (repeat (first | exact Below.refl _ _ | refine below_drew' ?_ | refine below_drewN' ?_ _ | refine below_alloc' ?_ _ | refine below_set' ?_ (by (try simp); (try omega)) _ | refine below_step ?_ (by assumption))), Lib.hid rfl⟩
  case round =>
    clear hB
    obtain ⟨k, hk, rfl, hB, hbw, HR⟩ := hrel
    have cA := hB.cell
    by_cases hlk : k < L
    · obtain ⟨wo, rfl⟩ : ∃ wo : World, wo = wr := ⟨_, rfl⟩
      have hB1 := hB.alloc (.cells (bl nob) 75)
      have hC1 : Blk (wo.alloc (.cells (bl nob) 75)) wo.heap.size (bl nob) 75 := Blk.new wo _ _
      have hbw1 := below_alloc' hbw (.cells (bl nob) 75)
      have hlt0 := hB.lt
      have hsz0 := hbw.size
      go_wp2_with (with_reducible show wpList _ _ _ _ _ _; refine wpList_store_row rfl 75 _ _ rfl wo.heap.size 0 (bl nob) rfl rfl _ _ hC1 (by rw [Hz16.out]; omega) (by rw [Hz16.out]; exact size_b16) (bl_one _) _ Hzo.out ?_; intro w1 hs1; have hB2 := hs1.keep (by omega) hB1; have hC2 := hs1.blk; have hbw2 := hs1.below _ _ (by omega) hbw1; clear hB1 hC1 hbw1 hs1)
      go_loopw [5] (fun i wr => ∃ j : Nat, j ≤ S ∧ i = .int .i64 j ∧ Blk wr w.heap.size (mc M) 28 ∧ Blk wr wo.heap.size (bl (metL M k j)) 75 ∧ Below w.heap.size w wr ∧ Hid (revTo M k j = true)) (fun i _ => S - (intOf i).toNat)
      case atStart => exact ⟨0, by omega, rfl, hB2, by rw [metL_zero]; exact hC2, hbw2, Lib.hid rfl⟩
      case round =>
        clear hB hB2 hC2 hbw hbw2 cA
        obtain ⟨j, hj, rfl, hB, hC, hbw, HT⟩ := hrel
        have cA := hB.cell
        have cC := hC.cell
        have fC := hC.free
        by_cases hlj : j < S
        · have hn := mc_n hok j k (by omega) (by omega)
          have hnn := Hg.out.nn_lt j k hlj hlk
          rw [Hg.out.nn_eq j k hlj hlk] at hn
          have Hset := Lib.hid (metL_set M k j)
          have hat := bl_at (metL M k j) (nn M j k) (by rw [metL_len]; omega)
          obtain ⟨b, hb⟩ : ∃ b, (metL M k j).getD (nn M j k) false = b := ⟨_, rfl⟩
          have Hb := Lib.hid hb
          rw [hb] at hat
          clear hb
          obtain ⟨y, hy⟩ : ∃ y, y = nn M j k := ⟨_, rfl⟩
          rw [← hy] at hn hnn Hset hat Hb
          have Hy := Lib.hid hy; clear hy
          cases b
          · have hT : Hid (revTo M k (j + 1) = true) := Lib.hid (by rw [revTo_succ, HT.out, ← Hy.out, Hb.out]; rfl)
            go_wp2
            go_roundw
            case rel => exact ⟨j + 1, by omega, by go_num, hB.setOther _ _ _ (by omega), by rw [← Hset.out, bl_set]; exact hC.set _ _, below_set' hbw (by omega) _, hT⟩
            case measure => simp [intOf] <;> omega
          · have Hbad := Lib.hid (rev_bad (M := M) (L := L) (S := S) hlk hlj (by rw [← Hy.out]; exact Hb.out))
            go_wp2
            go_ret
            exact ⟨ret_bool Hbad.out.symm, hbw⟩
        · obtain rfl : j = S := by omega
          go_wp2
          go_roundw
          case rel => exact ⟨k + 1, by omega, by go_num, hB, hbw, Lib.hid (by rw [revB_succ, HR.out, HT.out]; rfl)⟩
          case measure => simp [intOf] <;> omega
    · obtain rfl : k = L := by omega
      go_wp2
      go_ret
      exact ⟨ret_bool HR.out.symm, hbw⟩
end Go.Proofs.Ytolkfoecnmjofaa
