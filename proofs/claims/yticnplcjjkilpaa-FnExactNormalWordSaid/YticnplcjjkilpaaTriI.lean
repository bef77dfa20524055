/- 'staysTrivial', and 'TrivialStates': the program. -/
import Derived.Test.YticnplcjjkilpaaMinJ
namespace Go.Proofs.Yticnplcjjkilpaa
open Go.RowKit

/-- So far as the first k letters tell, the state q of m stays. -/
def stayUp (m : Mach) (q k : Nat) : Bool := (List.range k).all fun x => decide (m.o q x = (x : Int)) && decide (m.n q x = (q : Int))
theorem stayUp_succ (m : Mach) (q k : Nat) : stayUp m q (k + 1) = (stayUp m q k && (decide (m.o q k = (k : Int)) && decide (m.n q k = (q : Int)))) := by
  simp [stayUp, List.range_succ]
theorem stayUp_no (m : Mach) (q k L : Nat) (hk : k < L) (h : (decide (m.o q k = (k : Int)) && decide (m.n q k = (q : Int))) = false) : stayUp m q L = false := by
  unfold stayUp; rw [List.all_eq_false]; exact ⟨k, by simpa using hk, by rw [h]; simp⟩
theorem stayUp_iff (m : Mach) (q k : Nat) : stayUp m q k = true ↔ ∀ x, x < k → m.o q x = (x : Int) ∧ m.n q x = (q : Int) := by simp [stayUp]

theorem ret_bool' {a b : Bool} (h : a = b) : Ending.returned (.bool a) = Ending.returned (.bool b) := by rw [h]
set_option maxRecDepth 100000 in
set_option maxHeartbeats 1000000 in
theorem staysTrivial_calls (m : Mach) (hok : m.Ok) (L : Nat) (hL : m.L = L) (hL3 : L ≤ 3) (q : Nat) (hq : q < 16) (w : World) :
    Calls Try.prog 58 #[.agg (mc m), .int .i64 q] w fun e w' => e = .returned (.bool (stayUp m q L)) ∧ Below w.heap.size w w' := by
  have hcL := mc_L m
  rw [hL] at hcL
  have hB1 : Blk (w.alloc (.cells (mc m) 29)) w.heap.size (mc m) 29 := Blk.new w _ _
  have hbw0 : Below w.heap.size w (w.alloc (.cells (mc m) 29)) := by (repeat (first | exact Below.refl _ _ | refine below_drew' ?_ | refine below_drewN' ?_ _ | refine below_alloc' ?_ _ | refine below_set' ?_ (by (try simp); (try omega)) _ | refine below_step ?_ (by assumption)))
  have hqi : (q : Int) < 16 := by omega
  have cA := hB1.cell
  go_enter Try.func58, Try.ntmps58
  go_wp2
  go_loopw [8] (fun i wr => ∃ k : Nat, k ≤ L ∧ i = .int .i64 k ∧ Blk wr w.heap.size (mc m) 29 ∧ Below w.heap.size w wr ∧ Hid (stayUp m q k = true)) (fun i _ => L - (intOf i).toNat)
  case atStart => exact ⟨0, by omega, rfl, hB1, hbw0, Lib.hid rfl⟩
  case round =>
    clear hB1 hbw0 cA
    obtain ⟨k, hk, rfl, hB, hbw, HU⟩ := hrel
    have cA := hB.cell
    by_cases hlt : k < L
    · have hki : (k : Int) < 3 := by omega
      have hkL : (k : Int) < L := by omega
      have hk3 : k < 3 := by omega
      have o1 := mc_o hok q k hq hk3
      have n1 := mc_n hok q k hq hk3
      have Hs := Lib.hid (stayUp_succ m q k)
      have Hno : Hid ((decide (m.o q k = (k : Int)) && decide (m.n q k = (q : Int))) = false → stayUp m q L = false) := Lib.hid (stayUp_no m q k L hlt)
      have ob := Mach.o_bd hok q k
      have nb := Mach.n_bd hok q k
      generalize m.o q k = v1 at *
      generalize m.n q k = v2 at *
      by_cases hv : v1 = (k : Int)
      · have hv' : (v1 != (k : Int)) = false := by simpa using hv
        by_cases hc : v2 = (q : Int)
        · have hc' : (v2 != (q : Int)) = false := by simpa using hc
          have Hn : Hid (stayUp m q (k + 1) = true) := Lib.hid (by rw [Hs.out, HU.out]; simp [hv, hc])
          clear hv hc Hno Hs
          go_wp2
          go_roundw
          case rel => exact ⟨k + 1, by omega, by go_num, hB, hbw, Hn⟩
          case measure => simp [intOf] <;> omega
        · have hc' : (v2 != (q : Int)) = true := by simpa using hc
          have Hn := Lib.hid (Hno.out (by simp [hc]))
          clear hv hc Hno Hs
          go_wp2
          go_ret
          exact ⟨ret_bool' Hn.out.symm, hbw⟩
      · have hv' : (v1 != (k : Int)) = true := by simpa using hv
        have Hn := Lib.hid (Hno.out (by simp [hv]))
        clear hv Hno Hs
        go_wp2
        go_ret
        exact ⟨ret_bool' Hn.out.symm, hbw⟩
    · have hLk : L = k := by omega
      subst hLk
      go_wp2
      go_ret
      exact ⟨ret_bool' HU.out.symm, hbw⟩
end Go.Proofs.Yticnplcjjkilpaa
