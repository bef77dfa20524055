/- What one number of a group word does: the model's 'l02State', 'l02Step'; the guide's two ways. -/
import Derived.Test.YticnplcjjkilpaaLedM
import Derived.Test.YticnplcjjkilpaaMachC
import Derived.Test.YticnplcjjkilpaaQuietK
import Derived.Lib.MinMax
namespace Go.Proofs.Yticnplcjjkilpaa
open Go.RowKit

theorem ret_bi {a a' b b' : Int} (h : a = a') (h' : b = b') : Ending.returned (.tuple #[.int .u8 a, .int .i64 b]) = Ending.returned (.tuple #[.int .u8 a', .int .i64 b']) := by rw [h, h']
theorem stOf_pos {k : Int} (h : 0 < k) : (stOf k : Int) = k - 1 := by unfold stOf; rw [if_pos h]; omega
theorem stOf_neg {k : Int} (h0 : k ≠ 0) (h : ¬ 0 < k) : (stOf k : Int) = -k - 1 := by unfold stOf; rw [if_neg h]; omega

theorem l02State_calls (k : Int) (h0 : k ≠ 0) (h1 : -16 ≤ k) (h2 : k ≤ 16) (w : World) :
    Calls Try.prog 53 #[.int .i64 k] w fun e w' => e = .returned (.int .i64 (stOf k)) ∧ w = w' := by
  have hs : (stOf k : Int) = max k (-k) - 1 := by unfold stOf; split <;> omega
  have Hs := Lib.hid hs; clear hs
  have hm0 : 0 < max k (-k) := by omega
  have hm1 : max k (-k) ≤ 16 := by omega
  go_enter Try.func53, Try.ntmps53
  go_wp2
  go_ret
  exact ⟨ret_int (by rw [Hs.out]), rfl⟩

set_option maxRecDepth 100000 in
set_option maxHeartbeats 1000000 in
theorem l02Step_calls (M : Mach) (L S : Nat) (hg : Good M L S) (k : Int) (hk : numOk S k = true) (x : Nat) (hx : x < L) (w : World) :
    Calls Try.prog 59 #[.agg (mc M), .agg (mc (invM M L S)), .int .i64 k, .int .u8 x] w fun e w' => e = .returned (.tuple #[.int .u8 (outG M k x), .int .i64 (nextG M k x)]) ∧ Below w.heap.size w w' := by
  have hok := hg.ok
  have hL3 := hg.L3
  have hS16 := hg.S16
  have hIok := invM_ok hok L S hL3
  have hq := stOf_lt hk
  have hkk := (numOk_iff _ _).1 hk
  obtain ⟨i1, i2⟩ := hg.inv_at (stOf k) x hq hx
  have hB1 : Blk ((w.alloc (.cells (mc M) 29)).alloc (.cells (mc (invM M L S)) 29)) w.heap.size (mc M) 29 := (Blk.new w _ _).alloc _
  have hB2 : Blk ((w.alloc (.cells (mc M) 29)).alloc (.cells (mc (invM M L S)) 29)) (w.heap.size + 1) (mc (invM M L S)) 29 := Blk.new_at _ _ _ _ (by simp)
  have hbw : Below w.heap.size w ((w.alloc (.cells (mc M) 29)).alloc (.cells (mc (invM M L S)) 29)) := by (repeat (first | exact Below.refl _ _ | refine below_drew' ?_ | refine below_drewN' ?_ _ | refine below_alloc' ?_ _ | refine below_set' ?_ (by (try simp); (try omega)) _ | refine below_step ?_ (by assumption)))
  have cA := hB1.cell
  have cB := hB2.cell
  have hq16 : stOf k < 16 := by omega
  have hqi : (stOf k : Int) < 16 := by omega
  have hx3 : x < 3 := by omega
  have hxi : (x : Int) < 3 := by omega
  have k0 := hkk.1
  have k1 : -16 ≤ k := by omega
  have k2 : k ≤ 16 := by omega
  by_cases hp : 0 < k
  · have ho := mc_o hok (stOf k) x hq16 hx3
    have hn := mc_n hok (stOf k) x hq16 hx3
    have o0 := hg.o_lt (stOf k) x hq hx
    have n0 := hg.n_lt (stOf k) x hq hx
    have Ho : Hid ((outG M k x : Int) = M.o (stOf k) x) := Lib.hid (by unfold outG; rw [if_pos hp]; omega)
    have Hn : Hid (nextG M k x = M.n (stOf k) x + 1) := Lib.hid (by unfold nextG; rw [if_pos hp])
    generalize M.o (stOf k) x = ov at *
    generalize M.n (stOf k) x = nv at *
    clear i1 i2 hkk hq hk hB1 hB2
    go_enter Try.func59, Try.ntmps59
    go_wp2_with (go_at_call 53; refine (l02State_calls k k0 k1 k2 _).mono ?_; rintro e w' ⟨rfl, rfl⟩)
    go_quiet (fail)
    go_wp2
    go_ret2
    exact ⟨ret_bi Ho.out.symm Hn.out.symm, by (repeat (first | exact Below.refl _ _ | refine below_drew' ?_ | refine below_drewN' ?_ _ | refine below_alloc' ?_ _ | refine below_set' ?_ (by (try simp); (try omega)) _ | refine below_step ?_ (by assumption)))⟩
  · have ho := mc_o hIok (stOf k) x hq16 hx3
    have hn := mc_n hIok (stOf k) x hq16 hx3
    have hbk := (hg.bk_at (stOf k) x hq hx).1
    have n0 := hg.n_lt (stOf k) (bk M (stOf k) x) hq hbk
    rw [i1] at ho
    rw [i2] at hn
    have Ho : Hid ((outG M k x : Int) = (bk M (stOf k) x : Int)) := Lib.hid (by unfold outG; rw [if_neg hp])
    have Hn : Hid (nextG M k x = -(M.n (stOf k) (bk M (stOf k) x)) - 1) := Lib.hid (by unfold nextG; rw [if_neg hp])
    generalize M.n (stOf k) (bk M (stOf k) x) = nv at *
    generalize bk M (stOf k) x = ov at *
    clear i1 i2 hkk hq hk hB1 hB2
    go_enter Try.func59, Try.ntmps59
    go_wp2_with (go_at_call 53; refine (l02State_calls k k0 k1 k2 _).mono ?_; rintro e w' ⟨rfl, rfl⟩)
    go_quiet (fail)
    go_wp2
    go_ret2
    exact ⟨ret_bi Ho.out.symm (by rw [Hn.out]; omega), by (repeat (first | exact Below.refl _ _ | refine below_drew' ?_ | refine below_drewN' ?_ _ | refine below_alloc' ?_ _ | refine below_set' ?_ (by (try simp); (try omega)) _ | refine below_step ?_ (by assumption)))⟩

/-- The guide of a state, whose machine lies in block b. -/
def gd (b : Nat) (q : Int) : Value := .agg #[.pointer (some ⟨b, 0, none⟩), .int .i64 q]

set_option maxRecDepth 100000 in
set_option maxHeartbeats 1000000 in
theorem forward_calls (M : Mach) (L S : Nat) (hg : Good M L S) (b : Nat) (k : Int) (hk : numOk S k = true) (hp : 0 < k) (x : Nat) (hx : x < L) (w : World) (hB : Blk w b (mc M) 29) :
    Calls Try.prog 76 #[gd b (k - 1), .int .u8 x] w fun e w' => e = .returned (.tuple #[.int .u8 (outG M k x), .int .i64 (nextG M k x)]) ∧ Below w.heap.size w w' := by
  have hok := hg.ok
  have hL3 := hg.L3
  have hS16 := hg.S16
  have hq := stOf_lt hk
  have hs := stOf_pos hp
  have ho := mc_o hok (stOf k) x (by omega) (by omega)
  have hn := mc_n hok (stOf k) x (by omega) (by omega)
  have o0 := hg.o_lt (stOf k) x hq hx
  have n0 := hg.n_lt (stOf k) x hq hx
  have Ho : Hid ((outG M k x : Int) = M.o (stOf k) x) := Lib.hid (by unfold outG; rw [if_pos hp]; omega)
  have Hn : Hid (nextG M k x = M.n (stOf k) x + 1) := Lib.hid (by unfold nextG; rw [if_pos hp])
  rw [← hs]
  generalize M.o (stOf k) x = ov at *
  generalize M.n (stOf k) x = nv at *
  generalize stOf k = q at *
  have hq16 : q < 16 := by omega
  have hqi : (q : Int) < 16 := by omega
  have hxi : (x : Int) < 3 := by omega
  have hlt := hB.lt
  have hB1 : Blk (w.alloc (.cells #[.pointer (some ⟨b, 0, none⟩), .int .i64 q] 114)) b (mc M) 29 := hB.alloc _
  have hB2 : Blk (w.alloc (.cells #[.pointer (some ⟨b, 0, none⟩), .int .i64 q] 114)) w.heap.size #[.pointer (some ⟨b, 0, none⟩), .int .i64 q] 114 := Blk.new _ _ _
  have cA := hB1.cell
  have cB := hB2.cell
  have hbw : Below w.heap.size w (w.alloc (.cells #[.pointer (some ⟨b, 0, none⟩), .int .i64 q] 114)) := by (repeat (first | exact Below.refl _ _ | refine below_drew' ?_ | refine below_drewN' ?_ _ | refine below_alloc' ?_ _ | refine below_set' ?_ (by (try simp); (try omega)) _ | refine below_step ?_ (by assumption)))
  unfold gd
  clear hk hq hs hp hB hB1 hB2
  go_enter Try.func76, Try.ntmps76
  go_wp2
  go_quiet (fail)
  go_wp2
  go_ret2
  exact ⟨ret_bi Ho.out.symm Hn.out.symm, by (repeat (first | exact Below.refl _ _ | refine below_drew' ?_ | refine below_drewN' ?_ _ | refine below_alloc' ?_ _ | refine below_set' ?_ (by (try simp); (try omega)) _ | refine below_step ?_ (by assumption)))⟩
end Go.Proofs.Yticnplcjjkilpaa
