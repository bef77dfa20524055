/- Trees of words: 'orbit'. -/
import Derived.Test.YticnpajbefflbabTrO
import Derived.Test.YticnpajbefflbabLvB
namespace Go.Proofs.Yticnpajbefflbab
open Go.RowKit

/-- The first j words that are met. -/
def orbL (T : List Ent) (j : Nat) : List Int := ((List.range j).filter fun x => decide (x ∈ wds T)).map fun (x : Nat) => (x : Int)
theorem orbL_succ (T : List Ent) (j : Nat) : orbL T (j + 1) = orbL T j ++ if j ∈ wds T then [(j : Int)] else [] := by
  unfold orbL
  rw [List.range_succ, List.filter_append, List.map_append]
  by_cases h : j ∈ wds T
  · rw [if_pos h, List.filter_cons, if_pos (decide_eq_true h)]; rfl
  · rw [if_neg h, List.filter_cons, if_neg (by rw [decide_eq_false h]; simp)]; rfl
theorem orbL_len (T : List Ent) (j : Nat) : (orbL T j).length ≤ j := by
  unfold orbL
  have := List.length_filter_le (fun x => decide (x ∈ wds T)) (List.range j)
  simpa using this

set_option maxRecDepth 100000 in
set_option maxHeartbeats 2000000 in
theorem orbit_calls (base t N : Nat) (T : List Ent) (bs : List Nat) (gn : Nat) (qv : Value) (hN : N ≤ 1000) (w : World) (hT : TreeAt w base t N T bs gn qv) :
    Calls Try.prog 52 #[.pointer (some ⟨t, 0, none⟩)] w fun e w' => ∃ v, e = .returned v ∧ OwnI w' w.heap.size v (orbL T N) ∧ Below w.heap.size w w' := by
  have ct1 := hT.tb.cell 1
  simp at ct1
  have HT := Lib.hid hT
  clear hT
  go_enter Try.func52, Try.ntmps52
  go_wp2
  clear ct1
  go_loopw [3, 11] (fun ov i wr => ∃ (j : Nat) (v0 : Value), j ≤ N ∧ i = .int .i64 j ∧ v0 = ov ∧ OwnI wr w.heap.size v0 (orbL T j) ∧ Below w.heap.size w wr) (fun _ i _ => N - (intOf i).toNat)
  case atStart => exact ⟨0, _, by omega, rfl, rfl, OwnI.nil _ _, Below.refl _ _⟩
  case round =>
    obtain ⟨j, v0, hj, rfl, rfl, hO, hbw⟩ := hrel
    obtain ⟨w4, rfl⟩ : ∃ x, x = wr := ⟨_, rfl⟩
    by_cases hlt : j < N
    · have hji : (j : Int) < (N : Int) := by omega
      have hTw := HT.out.below hbw
      have cn := hTw.nod.cell j
      rw [nodesC_at _ _ _ _ hlt] at cn
      have Hs := Lib.hid (orbL_succ T j)
      have hln := orbL_len T j
      by_cases hin : j ∈ wds T
      · have hidx : (wds T).idxOf j < bs.length := by
          have := List.idxOf_lt_length_of_mem hin
          unfold wds at this
          rw [List.length_map] at this
          rw [HT.out.blen]
          exact this
        rw [nodeP_in hidx] at cn
        unfold ptr at cn
        have Hs2 : Hid (orbL T (j + 1) = orbL T j ++ [(j : Int)]) := Lib.hid (by rw [Hs.out, if_pos hin])
        have HO := Lib.hid hO
        have hOa := hO.below (w1 := w4.alloc (.cells #[.int .i64 (j : Int)] 2)) (by (repeat (first | exact Below.refl _ _ | refine below_drew' ?_ | refine below_drewN' ?_ _ | refine below_alloc' ?_ _ | refine below_set' ?_ (by (try simp); (try omega)) _ | refine below_step ?_ (by assumption))))
        have hba := below_alloc' hbw (.cells #[.int .i64 (j : Int)] 2)
        have hsz := hbw.size
        generalize bs[(wds T).idxOf j] = yb at *
        clear hin hidx hTw Hs hO hbw
        obtain ⟨o0, c0, hve, hvq⟩ := HO.out.view
        clear hvq
        generalize orbL T j = zs at *
        subst hve
        go_wp2_with (at_builtin; refine wpList_push_int rfl (.tmp 18) (.tmp 20) rfl w.heap.size _ zs rfl hOa w4.heap.size 1 (j : Int) rfl (Blk.new w4 _ _) (by omega) (by simp; omega) ?_; intro v7 w7 hO7 hb7)
        have hs7 := hb7.size
        simp at hs7
        go_roundw
        case rel => exact ⟨j + 1, _, by omega, by go_num, rfl, by rw [Hs2.out]; exact hO7, hba.trans (below_le hb7 (by omega))⟩
        case measure => simp [intOf] <;> omega
      · rw [nodeP_out HT.out.blen hin] at cn
        have Hs2 : Hid (orbL T (j + 1) = orbL T j) := Lib.hid (by rw [Hs.out, if_neg hin, List.append_nil])
        have HO := Lib.hid hO
        have HBW := Lib.hid hbw
        clear hin hTw Hs hO hbw
        go_wp2
        go_roundw
        case rel => exact ⟨j + 1, v0, by omega, by go_num, rfl, by rw [Hs2.out]; exact HO.out, HBW.out⟩
        case measure => simp [intOf] <;> omega
    · obtain rfl : N = j := by omega
      go_wp2
      go_ret
      exact ⟨_, rfl, hO, hbw⟩
end Go.Proofs.Yticnpajbefflbab
