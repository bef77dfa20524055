/- 'isStateRow'. -/
import Derived.Test.YtgeihpaealomkaaDoorProg
import Derived.Test.YtgeihpaealomkaaDoorMach
import Derived.Test.YtgeihpaealomkaaDoorWordA0
namespace Go.Proofs.YtgeihpaealomkaaDoor
open Go.RowKit

/-- The three marks behind k rounds. -/
def marks (M : Mach) (q k : Nat) : Array Value := #[.bool (seenB M q k 0), .bool (seenB M q k 1), .bool (seenB M q k 2)]

set_option maxRecDepth 100000 in
set_option maxHeartbeats 1000000 in
theorem isStateRow_calls (M : Mach) (h : M.Ok) (L S q : Nat) (hL : M.L = L) (hS : M.S = S) (h3 : L ≤ 3) (h16 : S ≤ 16) (hq : q < S) (w : World) :
    Calls Tryd.prog 67 #[.agg (mc M), .int .i64 q] w fun e w' => e = .returned (.bool (rowUpTo M L S q L)) ∧ Below w.heap.size w w' := by
  have hcL := mc_L M
  have hcS := mc_S M
  rw [hL] at hcL
  rw [hS] at hcS
  have HL := Lib.hid hL; have HS := Lib.hid hS; clear hL hS
  go_enter Tryd.func67, Tryd.ntmps67
  go_wp2
  have hB1 : Blk ((w.alloc (.cells (mc M) 29)).alloc (.cells #[.bool false, .bool false, .bool false] 74)) w.heap.size (mc M) 29 := (Blk.new w _ _).alloc _
  have hB2 : Blk ((w.alloc (.cells (mc M) 29)).alloc (.cells #[.bool false, .bool false, .bool false] 74)) (w.heap.size + 1) #[.bool false, .bool false, .bool false] 74 := Blk.new_at _ _ _ _ (by simp)
  go_loopw [11] (fun i wr => ∃ (k : Nat) (b0 b1 b2 : Bool), k ≤ L ∧ i = .int .i64 k ∧ Blk wr w.heap.size (mc M) 29 ∧ Blk wr (w.heap.size + 1) #[.bool b0, .bool b1, .bool b2] 74 ∧ Below w.heap.size w wr ∧
      Hid (b0 = seenB M q k 0 ∧ b1 = seenB M q k 1 ∧ b2 = seenB M q k 2 ∧ rowUpTo M L S q k = true)) (fun i _ => L - (intOf i).toNat)
  case atStart => exact ⟨0, false, false, false, Nat.zero_le _, rfl, hB1, hB2, by (repeat (first | exact Below.refl _ _ | refine below_drew' ?_ | refine below_drewN' ?_ _ | refine below_alloc' ?_ _ | refine below_set' ?_ (by (try simp); (try omega)) _ | refine below_step ?_ (by assumption))), Lib.hid ⟨rfl, rfl, rfl, rfl⟩⟩
  case round =>
    obtain ⟨k, b0, b1, b2, hk, rfl, hb1, hb2, hbel, HB⟩ := hrel
    have cA := hb1.cell
    have cB := hb2.cell
    have fB := hb2.free
    by_cases hlt : k < L
    · have hn := mc_n h q k (by omega) (by omega)
      have ho := mc_o h q k (by omega) (by omega)
      obtain ⟨hnb, _⟩ := Mach.n_bd h q k
      obtain ⟨hob, _⟩ := Mach.o_bd h q k
      have hco : cellOk M L S q k = (decide (M.n q k < S) && (decide (M.o q k < L) && !seenB M q k (M.o q k))) := rfl
      have hs0 := seenB_succ M q k 0
      have hs1 := seenB_succ M q k 1
      have hs2 := seenB_succ M q k 2
      generalize M.n q k = nv at *
      generalize M.o q k = ov at *
      have Hco := Lib.hid hco; clear hco
      have Hs := Lib.hid (And.intro hs0 (And.intro hs1 hs2)); clear hs0 hs1 hs2
      by_cases c1 : nv < S
      · by_cases c2 : ov < L
        · have hov : ov = 0 ∨ ov = 1 ∨ ov = 2 := by omega
          obtain ⟨e0, e1, e2, eu⟩ := HB.out
          rcases hov with rfl | rfl | rfl
          · cases b0
            · have Hok : Hid (cellOk M L S q k = true) := Lib.hid (by rw [Hco.out, ← e0]; simp [c1]; omega)
              clear e0 e1 e2 eu
              go_wp2
              go_quiet (fail)
              go_wp2
              go_roundw
              case rel => exact ⟨k + 1, true, b1, b2, by omega, by go_num, (hb1.drewN _).setOther _ _ _ (by omega), (hb2.drewN _).set 0 _, (hbel.trans (Go.Joins.below_draws _ _ _)).setCell (by simp) _, Lib.hid ⟨by rw [Hs.out.1]; simp, by rw [Hs.out.2.1, ← HB.out.2.1]; simp, by rw [Hs.out.2.2, ← HB.out.2.2.1]; simp, by rw [rowUpTo_succ, HB.out.2.2.2, Hok.out]; rfl⟩⟩
              case measure => simp [intOf] <;> omega
            · have Hbad := Lib.hid (rowUpTo_bad hlt (by rw [Hco.out, ← e0]; simp) : rowUpTo M L S q L = false)
              clear e0 e1 e2 eu
              go_wp2
              go_quiet (fail)
              go_wp2
              go_ret
              exact ⟨ret_bool Hbad.out.symm, hbel.trans (Go.Joins.below_draws _ _ _)⟩
          · cases b1
            · have Hok : Hid (cellOk M L S q k = true) := Lib.hid (by rw [Hco.out, ← e1]; simp [c1]; omega)
              clear e0 e1 e2 eu
              go_wp2
              go_quiet (fail)
              go_wp2
              go_roundw
              case rel => exact ⟨k + 1, b0, true, b2, by omega, by go_num, (hb1.drewN _).setOther _ _ _ (by omega), (hb2.drewN _).set 1 _, (hbel.trans (Go.Joins.below_draws _ _ _)).setCell (by simp) _, Lib.hid ⟨by rw [Hs.out.1, ← HB.out.1]; simp, by rw [Hs.out.2.1]; simp, by rw [Hs.out.2.2, ← HB.out.2.2.1]; simp, by rw [rowUpTo_succ, HB.out.2.2.2, Hok.out]; rfl⟩⟩
              case measure => simp [intOf] <;> omega
            · have Hbad := Lib.hid (rowUpTo_bad hlt (by rw [Hco.out, ← e1]; simp) : rowUpTo M L S q L = false)
              clear e0 e1 e2 eu
              go_wp2
              go_quiet (fail)
              go_wp2
              go_ret
              exact ⟨ret_bool Hbad.out.symm, hbel.trans (Go.Joins.below_draws _ _ _)⟩
          · cases b2
            · have Hok : Hid (cellOk M L S q k = true) := Lib.hid (by rw [Hco.out, ← e2]; simp [c1]; omega)
              clear e0 e1 e2 eu
              go_wp2
              go_quiet (fail)
              go_wp2
              go_roundw
              case rel => exact ⟨k + 1, b0, b1, true, by omega, by go_num, (hb1.drewN _).setOther _ _ _ (by omega), (hb2.drewN _).set 2 _, (hbel.trans (Go.Joins.below_draws _ _ _)).setCell (by simp) _, Lib.hid ⟨by rw [Hs.out.1, ← HB.out.1]; simp, by rw [Hs.out.2.1, ← HB.out.2.1]; simp, by rw [Hs.out.2.2]; simp, by rw [rowUpTo_succ, HB.out.2.2.2, Hok.out]; rfl⟩⟩
              case measure => simp [intOf] <;> omega
            · have Hbad := Lib.hid (rowUpTo_bad hlt (by rw [Hco.out, ← e2]; simp) : rowUpTo M L S q L = false)
              clear e0 e1 e2 eu
              go_wp2
              go_quiet (fail)
              go_wp2
              go_ret
              exact ⟨ret_bool Hbad.out.symm, hbel.trans (Go.Joins.below_draws _ _ _)⟩
        · have Hbad := Lib.hid (rowUpTo_bad hlt (by rw [Hco.out]; simp [c2]) : rowUpTo M L S q L = false)
          go_wp2
          go_quiet (fail)
          go_wp2
          go_ret
          exact ⟨ret_bool Hbad.out.symm, hbel.trans (Go.Joins.below_draws _ _ _)⟩
      · have Hbad := Lib.hid (rowUpTo_bad hlt (by rw [Hco.out]; simp [c1]) : rowUpTo M L S q L = false)
        go_wp2
        go_quiet (fail)
        go_wp2
        go_ret
        exact ⟨ret_bool Hbad.out.symm, hbel.trans (Go.Joins.below_draws _ _ _)⟩
    · obtain rfl : k = L := by omega
      go_wp2
      go_ret
      exact ⟨ret_bool HB.out.2.2.2.symm, hbel⟩
end Go.Proofs.YtgeihpaealomkaaDoor
