/- 'isStateRow'. -/
import Derived.Test.YtliohokcjgcmhaaProg
import Derived.Test.YtliohokcjgcmhaaMach
import Derived.Test.YtliohokcjgcmhaaWordA0
namespace Go.Proofs.Ytliohokcjgcmhaa
open Go.RowKit

/-- The three marks behind k rounds. -/
def marks (M : Mach) (q k : Nat) : Array Value := #[.bool (seenB M q k 0), .bool (seenB M q k 1), .bool (seenB M q k 2)]

set_option maxRecDepth 100000 in
set_option maxHeartbeats 1000000 in
theorem isStateRow_calls (M : Mach) (h : M.Ok) (L S q : Nat) (hL : M.L = L) (hS : M.S = S) (h3 : L ≤ 3) (h16 : S ≤ 16) (hq : q < S) (w : World) :
    Calls Try.prog 137 #[.agg (mc M), .int .i64 q] w fun e w' => e = .returned (.bool (rowUpTo M L S q L)) ∧ Below w.heap.size w w' := by
  have hcL := mc_L M
  have hcS := mc_S M
  rw [hL] at hcL
  rw [hS] at hcS
  have HL := Lib.hid hL; have HS := Lib.hid hS; clear hL hS
  go_enter Try.func137, Try.ntmps137
  go_wp2
  have hB1 : Blk ((w.alloc (.cells (mc M) 27)).alloc (.cells #[.bool false, .bool false, .bool false] 167)) w.heap.size (mc M) 27 := (Blk.new w _ _).alloc _
  have hB2 : Blk ((w.alloc (.cells (mc M) 27)).alloc (.cells #[.bool false, .bool false, .bool false] 167)) (w.heap.size + 1) #[.bool false, .bool false, .bool false] 167 := Blk.new_at _ _ _ _ (by simp)
  go_loopw [11] (fun i wr => ∃ (k : Nat) (b0 b1 b2 : Bool), k ≤ L ∧ i = .int .i64 k ∧ Blk wr w.heap.size (mc M) 27 ∧ Blk wr (w.heap.size + 1) #[.bool b0, .bool b1, .bool b2] 167 ∧ Below w.heap.size w wr ∧
      Hid (b0 = seenB M q k 0 ∧ b1 = seenB M q k 1 ∧ b2 = seenB M q k 2 ∧ rowUpTo M L S q k = true)) (fun i _ => L - (intOf i).toNat)
  case atStart => exact ⟨0, false, false, false, Nat.zero_le _, rfl, hB1, hB2, by (repeat (first | exact Below.refl _ _ | refine below_drew' ?_ | refine below_drewN' ?_ _ | refine below_alloc' ?_ _ | refine below_set' ?_ (by (try simp); (try omega)) _ | refine below_step ?_ (by assumption))), Lib.hid ⟨rfl, rfl, rfl, rfl⟩⟩
  case round =>
    obtain ⟨k, b0, b1, b2, hk, rfl, hb1, hb2, hbel, HB⟩ := hrel
    have cA := hb1.cell
    have cB := hb2.cell
    have fB := hb2.free
    by_cases hlt : k < L
    · have hn := mc_n h q k (by omega) (by omega)
      have ho := mc_o h q k (by omega) (by omega)
      obtain ⟨hnb, _⟩ := Mach.n_bd h q k
      obtain ⟨hob, _⟩ := Mach.o_bd h q k
      have hco : cellOk M L S q k = (decide (M.n q k < S) && (decide (M.o q k < L) && !seenB M q k (M.o q k))) := rfl
      have hs0 := seenB_succ M q k 0
      have hs1 := seenB_succ M q k 1
      have hs2 := seenB_succ M q k 2
      generalize M.n q k = nv at *
      generalize M.o q k = ov at *
      have Hco := Lib.hid hco; clear hco
      have Hs := Lib.hid (And.intro hs0 (And.intro hs1 hs2)); clear hs0 hs1 hs2
      by_cases c1 : nv < S
      · by_cases c2 : ov < L
        · have hov : ov = 0 ∨ ov = 1 ∨ ov = 2 := by omega
          obtain ⟨e0, e1, e2, eu⟩ := HB.out
          rcases hov with rfl | rfl | rfl
          · cases b0
            · have Hok : Hid (cellOk M L S q k = true) := Lib.hid (by rw [Hco.out, ← e0]; simp [c1]; omega)
              clear e0 e1 e2 eu
              go_wp2
              go_quiet (fail)
              go_wp2
              go_roundw
              case rel => exact ⟨k + 1, true, b1, b2, by omega, by go_num, (hb1.drewN _).setOther _ _ _ (by omega), (hb2.drewN _).set 0 _, (hbel.trans (Go.Joins.below_draws _ _ _)).setCell (by simp) _, Lib.hid ⟨by rw [Hs.out.1]; simp, by rw [Hs.out.2.1, ← HB.out.2.1]; simp, by rw [Hs.out.2.2, ← HB.out.2.2.1]; simp, by rw [rowUpTo_succ, HB.out.2.2.2, Hok.out]; rfl⟩⟩
              case measure => simp [intOf] <;> omega
            · have Hbad := Lib.hid (rowUpTo_bad hlt (by rw [Hco.out, ← e0]; simp) : rowUpTo M L S q L = false)
              clear e0 e1 e2 eu
              go_wp2
              go_quiet (fail)
              go_wp2
              go_ret
              exact ⟨ret_bool Hbad.out.symm, hbel.trans (Go.Joins.below_draws _ _ _)⟩
          · cases b1
            · have Hok : Hid (cellOk M L S q k = true) := Lib.hid (by rw [Hco.out, ← e1]; simp [c1]; omega)
              clear e0 e1 e2 eu
              go_wp2
              go_quiet (fail)
              go_wp2
              go_roundw
              case rel => exact ⟨k + 1, b0, true, b2, by omega, by go_num, (hb1.drewN _).setOther _ _ _ (by omega), (hb2.drewN _).set 1 _, (hbel.trans (Go.Joins.below_draws _ _ _)).setCell (by simp) _, Lib.hid ⟨by rw [Hs.out.1, ← HB.out.1]; simp, by rw [Hs.out.2.1]; simp, by rw [Hs.out.2.2, ← HB.out.2.2.1]; simp, by rw [rowUpTo_succ, HB.out.2.2.2, Hok.out]; rfl⟩⟩
              case measure => simp [intOf] <;> omega
            · have Hbad := Lib.hid (rowUpTo_bad hlt (by rw [Hco.out, ← e1]; simp) : rowUpTo M L S q L = false)
              clear e0 e1 e2 eu
              go_wp2
              go_quiet (fail)
              go_wp2
              go_ret
              exact ⟨ret_bool Hbad.out.symm, hbel.trans (Go.Joins.below_draws _ _ _)⟩
          · cases b2
            · have Hok : Hid (cellOk M L S q k = true) := Lib.hid (by rw [Hco.out, ← e2]; simp [c1]; omega)
              clear e0 e1 e2 eu
              go_wp2
              go_quiet (fail)
              go_wp2
              go_roundw
              case rel => exact ⟨k + 1, b0, b1, true, by omega, by go_num, (hb1.drewN _).setOther _ _ _ (by omega), (hb2.drewN _).set 2 _, (hbel.trans (Go.Joins.below_draws _ _ _)).setCell (by simp) _, Lib.hid ⟨by rw [Hs.out.1, ← HB.out.1]; simp, by rw [Hs.out.2.1, ← HB.out.2.1]; simp, by rw [Hs.out.2.2]; simp, by rw [rowUpTo_succ, HB.out.2.2.2, Hok.out]; rfl⟩⟩
              case measure => simp [intOf] <;> omega
            · have Hbad := Lib.hid (rowUpTo_bad hlt (by rw [Hco.out, ← e2]; simp) : rowUpTo M L S q L = false)
              clear e0 e1 e2 eu
              go_wp2
              go_quiet (fail)
              go_wp2
              go_ret
              exact ⟨ret_bool Hbad.out.symm, hbel.trans (Go.Joins.below_draws _ _ _)⟩
        · have Hbad := Lib.hid (rowUpTo_bad hlt (by rw [Hco.out]; simp [c2]) : rowUpTo M L S q L = false)
          go_wp2
          go_quiet (fail)
          go_wp2
          go_ret
          exact ⟨ret_bool Hbad.out.symm, hbel.trans (Go.Joins.below_draws _ _ _)⟩
      · have Hbad := Lib.hid (rowUpTo_bad hlt (by rw [Hco.out]; simp [c1]) : rowUpTo M L S q L = false)
        go_wp2
        go_quiet (fail)
        go_wp2
        go_ret
        exact ⟨ret_bool Hbad.out.symm, hbel.trans (Go.Joins.below_draws _ _ _)⟩
    · obtain rfl : k = L := by omega
      go_wp2
      go_ret
      exact ⟨ret_bool HB.out.2.2.2.symm, hbel⟩
end Go.Proofs.Ytliohokcjgcmhaa

namespace Go.Proofs.Ytliohokcjgcmhaa
open Go.RowKit

set_option maxRecDepth 100000 in
set_option maxHeartbeats 2000000 in
theorem l01Is_good (M : Mach) (h : M.Ok) (L S : Nat) (hL : M.L = L) (hS : M.S = S) (h2 : 2 ≤ L) (h3 : L ≤ 3) (h1 : 1 ≤ S) (h16 : S ≤ 16) (w : World) :
    Calls Try.prog 71 #[.agg (mc M)] w fun e w' => e = .returned (.bool (isMach M)) ∧ Below w.heap.size w w' := by
  have hm : isMach M = machUpTo M L S 16 := by
    unfold isMach
    rw [hL, hS, Int.toNat_natCast, Int.toNat_natCast, show decide (2 ≤ (L : Int) ∧ (L : Int) ≤ 3) = true from by simp; omega, show decide (1 ≤ (S : Int) ∧ (S : Int) ≤ 16) = true from by simp; omega]
    rfl
  have Hm := Lib.hid hm; clear hm
  have hcL := mc_L M
  have hcS := mc_S M
  rw [hL] at hcL
  rw [hS] at hcS
  have HL := Lib.hid hL; have HS := Lib.hid hS; clear hL hS
  have hd1 : decide (2 ≤ (L : Int) ∧ (L : Int) ≤ 3) = true := by simp; omega
  have hd2 : decide (1 ≤ (S : Int) ∧ (S : Int) ≤ 16) = true := by simp; omega
  go_enter Try.func71, Try.ntmps71
  go_wp2_with (first | (go_at_call 102; refine (l01In_calls _ _ _ _).mono ?_; rintro e w' ⟨rfl, rfl⟩))
  have hB1 : Blk (w.alloc (.cells (mc M) 27)) w.heap.size (mc M) 27 := Blk.new w _ _
  go_loopw [3] (fun i wr => ∃ (q : Nat), q ≤ 16 ∧ i = .int .i64 q ∧ Blk wr w.heap.size (mc M) 27 ∧ Below w.heap.size w wr ∧ Hid (machUpTo M L S q = true)) (fun i _ => 16 - (intOf i).toNat)
  case atStart => exact ⟨0, by omega, rfl, hB1, by (repeat (first | exact Below.refl _ _ | refine below_drew' ?_ | refine below_drewN' ?_ _ | refine below_alloc' ?_ _ | refine below_set' ?_ (by (try simp); (try omega)) _ | refine below_step ?_ (by assumption))), Lib.hid rfl⟩
  case round =>
    obtain ⟨q, hq, rfl, hb1, hbel, HU⟩ := hrel
    by_cases hq16 : q < 16
    · obtain ⟨wo, rfl⟩ : ∃ wo : World, wo = wr := ⟨_, rfl⟩
      have hqd : decide ((q : Int) < 16) = true := by simp; omega
      have hB2 : Blk (wo.alloc (.cells #[.bool false, .bool false, .bool false] 167)) wo.heap.size #[.bool false, .bool false, .bool false] 167 := Blk.new wo _ _
      have hb1' := hb1.alloc (.cells #[.bool false, .bool false, .bool false] 167)
      have hbel' := hbel.alloc hbel.size (.cells #[.bool false, .bool false, .bool false] 167)
      have hlt0 := hb1.lt
      have hsz0 := hbel.size
      go_wp2
      go_loopw [5] (fun i wr => ∃ (k : Nat) (b0 b1 b2 : Bool), k ≤ 3 ∧ i = .int .i64 k ∧ Blk wr w.heap.size (mc M) 27 ∧ Blk wr wo.heap.size #[.bool b0, .bool b1, .bool b2] 167 ∧ Below w.heap.size w wr ∧
          Hid (rowAll M L S q k = true ∧ (q < S → k ≤ L → b0 = seenB M q k 0 ∧ b1 = seenB M q k 1 ∧ b2 = seenB M q k 2))) (fun i _ => 3 - (intOf i).toNat)
      case atStart => exact ⟨0, false, false, false, by omega, rfl, hb1', hB2, hbel', Lib.hid ⟨rfl, fun _ _ => ⟨rfl, rfl, rfl⟩⟩⟩
      case round =>
        clear hb1 hb1' hbel hbel' hB2 hB1
        obtain ⟨k, b0, b1, b2, hk, rfl, hb1, hb2, hbel, HB⟩ := hrel
        have cA := hb1.cell
        have cB := hb2.cell
        have fB := hb2.free
        by_cases hlt : k < 3
        · have hn := mc_n h q k hq16 hlt
          have ho := mc_o h q k hq16 hlt
          obtain ⟨hnb, _⟩ := Mach.n_bd h q k
          obtain ⟨hob, _⟩ := Mach.o_bd h q k
          have hco : cellOk M L S q k = (decide (M.n q k < S) && (decide (M.o q k < L) && !seenB M q k (M.o q k))) := rfl
          have hca : cellAll M L S q k = if q < S ∧ k < L then cellOk M L S q k else decide (M.n q k = 0 ∧ M.o q k = 0) := rfl
          have hs0 := seenB_succ M q k 0
          have hs1 := seenB_succ M q k 1
          have hs2 := seenB_succ M q k 2
          generalize M.n q k = nv at *
          generalize M.o q k = ov at *
          have Hco := Lib.hid hco; clear hco
          have Hs := Lib.hid (And.intro hs0 (And.intro hs1 hs2)); clear hs0 hs1 hs2
          by_cases c : q < S ∧ k < L
          · rw [if_pos c] at hca
            have Hca := Lib.hid hca; clear hca
            obtain ⟨c0, c0'⟩ := c
            by_cases c1 : nv < S
            · by_cases c2 : ov < L
              · have hov : ov = 0 ∨ ov = 1 ∨ ov = 2 := by omega
                obtain ⟨e0, e1, e2⟩ := HB.out.2 c0 (by omega)
                rcases hov with rfl | rfl | rfl
                · cases b0
                  · have Hok : Hid (cellAll M L S q k = true) := Lib.hid (by rw [Hca.out, Hco.out, ← e0]; simp [c1]; omega)
                    clear e0 e1 e2
                    go_wp2
                    go_quiet (fail)
                    go_wp2
                    go_roundw
                    case rel => exact ⟨k + 1, true, b1, b2, by omega, by go_num, (hb1.drewN _).setOther _ _ _ (by omega), (hb2.drewN _).set 0 _, (hbel.trans (Go.Joins.below_draws _ _ _)).setCell (by omega) _, Lib.hid ⟨by rw [rowAll_succ, HB.out.1, Hok.out]; rfl, fun _ _ => ⟨by rw [Hs.out.1]; simp, by rw [Hs.out.2.1, ← (HB.out.2 c0 (by omega)).2.1]; simp, by rw [Hs.out.2.2, ← (HB.out.2 c0 (by omega)).2.2]; simp⟩⟩⟩
                    case measure => simp [intOf] <;> omega
                  · have Hbad := Lib.hid (machUpTo_bad hq16 hlt (by rw [Hca.out, Hco.out, ← e0]; simp) : machUpTo M L S 16 = false)
                    clear e0 e1 e2
                    go_wp2
                    go_quiet (fail)
                    go_wp2
                    go_ret
                    exact ⟨ret_bool (by rw [Hm.out, Hbad.out]), hbel.trans (Go.Joins.below_draws _ _ _)⟩
                · cases b1
                  · have Hok : Hid (cellAll M L S q k = true) := Lib.hid (by rw [Hca.out, Hco.out, ← e1]; simp [c1]; omega)
                    clear e0 e1 e2
                    go_wp2
                    go_quiet (fail)
                    go_wp2
                    go_roundw
                    case rel => exact ⟨k + 1, b0, true, b2, by omega, by go_num, (hb1.drewN _).setOther _ _ _ (by omega), (hb2.drewN _).set 1 _, (hbel.trans (Go.Joins.below_draws _ _ _)).setCell (by omega) _, Lib.hid ⟨by rw [rowAll_succ, HB.out.1, Hok.out]; rfl, fun _ _ => ⟨by rw [Hs.out.1, ← (HB.out.2 c0 (by omega)).1]; simp, by rw [Hs.out.2.1]; simp, by rw [Hs.out.2.2, ← (HB.out.2 c0 (by omega)).2.2]; simp⟩⟩⟩
                    case measure => simp [intOf] <;> omega
                  · have Hbad := Lib.hid (machUpTo_bad hq16 hlt (by rw [Hca.out, Hco.out, ← e1]; simp) : machUpTo M L S 16 = false)
                    clear e0 e1 e2
                    go_wp2
                    go_quiet (fail)
                    go_wp2
                    go_ret
                    exact ⟨ret_bool (by rw [Hm.out, Hbad.out]), hbel.trans (Go.Joins.below_draws _ _ _)⟩
                · cases b2
                  · have Hok : Hid (cellAll M L S q k = true) := Lib.hid (by rw [Hca.out, Hco.out, ← e2]; simp [c1]; omega)
                    clear e0 e1 e2
                    go_wp2
                    go_quiet (fail)
                    go_wp2
                    go_roundw
                    case rel => exact ⟨k + 1, b0, b1, true, by omega, by go_num, (hb1.drewN _).setOther _ _ _ (by omega), (hb2.drewN _).set 2 _, (hbel.trans (Go.Joins.below_draws _ _ _)).setCell (by omega) _, Lib.hid ⟨by rw [rowAll_succ, HB.out.1, Hok.out]; rfl, fun _ _ => ⟨by rw [Hs.out.1, ← (HB.out.2 c0 (by omega)).1]; simp, by rw [Hs.out.2.1, ← (HB.out.2 c0 (by omega)).2.1]; simp, by rw [Hs.out.2.2]; simp⟩⟩⟩
                    case measure => simp [intOf] <;> omega
                  · have Hbad := Lib.hid (machUpTo_bad hq16 hlt (by rw [Hca.out, Hco.out, ← e2]; simp) : machUpTo M L S 16 = false)
                    clear e0 e1 e2
                    go_wp2
                    go_quiet (fail)
                    go_wp2
                    go_ret
                    exact ⟨ret_bool (by rw [Hm.out, Hbad.out]), hbel.trans (Go.Joins.below_draws _ _ _)⟩
              · have Hbad := Lib.hid (machUpTo_bad hq16 hlt (by rw [Hca.out, Hco.out]; simp [c2]) : machUpTo M L S 16 = false)
                go_wp2
                go_quiet (fail)
                go_wp2
                go_ret
                exact ⟨ret_bool (by rw [Hm.out, Hbad.out]), hbel.trans (Go.Joins.below_draws _ _ _)⟩
            · have Hbad := Lib.hid (machUpTo_bad hq16 hlt (by rw [Hca.out, Hco.out]; simp [c1]) : machUpTo M L S 16 = false)
              go_wp2
              go_quiet (fail)
              go_wp2
              go_ret
              exact ⟨ret_bool (by rw [Hm.out, Hbad.out]), hbel.trans (Go.Joins.below_draws _ _ _)⟩
          · rw [if_neg c] at hca
            have Hca := Lib.hid hca; clear hca
            by_cases c1 : nv = 0 ∧ ov = 0
            · have Hok : Hid (cellAll M L S q k = true) := Lib.hid (by rw [Hca.out]; simpa using c1)
              obtain ⟨rfl, rfl⟩ := c1
              by_cases c0 : q < S
              · have c0' : ¬ k < L := fun h => c ⟨c0, h⟩
                go_wp2
                go_quiet (fail)
                go_wp2
                go_roundw
                case rel => exact ⟨k + 1, b0, b1, b2, by omega, by go_num, hb1.drewN _, hb2.drewN _, hbel.trans (Go.Joins.below_draws _ _ _), Lib.hid ⟨by rw [rowAll_succ, HB.out.1, Hok.out]; rfl, fun _ h => absurd h (by omega)⟩⟩
                case measure => simp [intOf] <;> omega
              · go_wp2
                go_quiet (fail)
                go_wp2
                go_roundw
                case rel => exact ⟨k + 1, b0, b1, b2, by omega, by go_num, hb1.drewN _, hb2.drewN _, hbel.trans (Go.Joins.below_draws _ _ _), Lib.hid ⟨by rw [rowAll_succ, HB.out.1, Hok.out]; rfl, fun h _ => absurd h c0⟩⟩
                case measure => simp [intOf] <;> omega
            · have Hbad := Lib.hid (machUpTo_bad hq16 hlt (by rw [Hca.out]; simpa using c1) : machUpTo M L S 16 = false)
              have c1' : ((nv == 0) = false ∧ (nv != 0) = true) ∨ nv = 0 ∧ (ov == 0) = false ∧ (ov != 0) = true := by
                by_cases z : nv = 0
                · have z' : ¬ ov = 0 := fun z' => c1 ⟨z, z'⟩
                  exact Or.inr ⟨z, by simp [z'], by simp [z']⟩
                · exact Or.inl ⟨by simp [z], by simp [z]⟩
              clear c1
              rcases c1' with ⟨z, z2⟩ | ⟨rfl, z, z2⟩
              · by_cases c0 : q < S
                · have c0' : ¬ k < L := fun h => c ⟨c0, h⟩
                  go_wp2
                  go_quiet (fail)
                  go_wp2
                  go_ret
                  exact ⟨ret_bool (by rw [Hm.out, Hbad.out]), hbel.trans (Go.Joins.below_draws _ _ _)⟩
                · go_wp2
                  go_quiet (fail)
                  go_wp2
                  go_ret
                  exact ⟨ret_bool (by rw [Hm.out, Hbad.out]), hbel.trans (Go.Joins.below_draws _ _ _)⟩
              · by_cases c0 : q < S
                · have c0' : ¬ k < L := fun h => c ⟨c0, h⟩
                  go_wp2
                  go_quiet (fail)
                  go_wp2
                  go_ret
                  exact ⟨ret_bool (by rw [Hm.out, Hbad.out]), hbel.trans (Go.Joins.below_draws _ _ _)⟩
                · go_wp2
                  go_quiet (fail)
                  go_wp2
                  go_ret
                  exact ⟨ret_bool (by rw [Hm.out, Hbad.out]), hbel.trans (Go.Joins.below_draws _ _ _)⟩
        · obtain rfl : k = 3 := by omega
          go_wp2
          go_roundw
          case rel => exact ⟨q + 1, by omega, by go_num, hb1, hbel, Lib.hid (by rw [machUpTo_succ, HU.out, HB.out.1]; rfl)⟩
          case measure => simp [intOf] <;> omega
    · obtain rfl : q = 16 := by omega
      go_wp2
      go_ret
      exact ⟨ret_bool (by rw [Hm.out, HU.out]), hbel⟩
end Go.Proofs.Ytliohokcjgcmhaa
