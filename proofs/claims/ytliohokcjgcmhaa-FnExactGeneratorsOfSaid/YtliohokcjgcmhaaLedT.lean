/- What one number of a group word does: the model's 'l02State', 'l02Step'; the guide's two ways. -/
import Derived.Test.YtliohokcjgcmhaaLedM
import Derived.Test.YtliohokcjgcmhaaMachC
import Derived.Test.YtliohokcjgcmhaaHeldK
import Derived.Lib.MinMax
import Derived.Test.YtliohokcjgcmhaaArgs
import Derived.Laws.EntriesVeiled
import Derived.Test.YtliohokcjgcmhaaGrpT
namespace Go.Proofs.Ytliohokcjgcmhaa
open Go.RowKit

theorem ret_bi {a a' b b' : Int} (h : a = a') (h' : b = b') : Ending.returned (.tuple #[.int .u8 a, .int .i64 b]) = Ending.returned (.tuple #[.int .u8 a', .int .i64 b']) := by rw [h, h']
theorem stOf_pos {k : Int} (h : 0 < k) : (stOf k : Int) = k - 1 := by unfold stOf; rw [if_pos h]; omega
theorem stOf_neg {k : Int} (h0 : k ≠ 0) (h : ¬ 0 < k) : (stOf k : Int) = -k - 1 := by unfold stOf; rw [if_neg h]; omega

theorem l02State_calls (k : Int) (h0 : k ≠ 0) (h1 : -16 ≤ k) (h2 : k ≤ 16) (w : World) :
    Calls Try.prog 163 #[.int .i64 k] w fun e w' => e = .returned (.int .i64 (stOf k)) ∧ w = w' := by
  have hs : (stOf k : Int) = max k (-k) - 1 := by unfold stOf; split <;> omega
  have Hs := Lib.hid hs; clear hs
  have hm0 : 0 < max k (-k) := by omega
  have hm1 : max k (-k) ≤ 16 := by omega
  go_enter Try.func163, Try.ntmps163
  go_wp2
  go_ret
  exact ⟨ret_int (by rw [Hs.out]), rfl⟩

set_option maxRecDepth 100000 in
set_option maxHeartbeats 1000000 in
theorem l02Step_calls (M : Mach) (L S : Nat) (hg : Good M L S) (k : Int) (hk : numOk S k = true) (x : Nat) (hx : x < L) (w : World) :
    Calls Try.prog 147 #[.agg (mc M), .agg (mc (invM M L S)), .int .i64 k, .int .u8 x] w fun e w' => e = .returned (.tuple #[.int .u8 (outG M k x), .int .i64 (nextG M k x)]) ∧ Below w.heap.size w w' := by
  have hok := hg.ok
  have hL3 := hg.L3
  have hS16 := hg.S16
  have hIok := invM_ok hok L S hL3
  have hq := stOf_lt hk
  have hkk := (numOk_iff _ _).1 hk
  obtain ⟨i1, i2⟩ := hg.inv_at (stOf k) x hq hx
  have hB1 : Blk ((w.alloc (.cells (mc M) 27)).alloc (.cells (mc (invM M L S)) 27)) w.heap.size (mc M) 27 := (Blk.new w _ _).alloc _
  have hB2 : Blk ((w.alloc (.cells (mc M) 27)).alloc (.cells (mc (invM M L S)) 27)) (w.heap.size + 1) (mc (invM M L S)) 27 := Blk.new_at _ _ _ _ (by simp)
  have hbw : Below w.heap.size w ((w.alloc (.cells (mc M) 27)).alloc (.cells (mc (invM M L S)) 27)) := by (repeat (first | exact Below.refl _ _ | refine below_drew' ?_ | refine below_drewN' ?_ _ | refine below_alloc' ?_ _ | refine below_set' ?_ (by (try simp); (try omega)) _ | refine below_step ?_ (by assumption)))
  have cA := hB1.cell
  have cB := hB2.cell
  have hq16 : stOf k < 16 := by omega
  have hqi : (stOf k : Int) < 16 := by omega
  have hx3 : x < 3 := by omega
  have hxi : (x : Int) < 3 := by omega
  have k0 := hkk.1
  have k1 : -16 ≤ k := by omega
  have k2 : k ≤ 16 := by omega
  by_cases hp : 0 < k
  · have ho := mc_o hok (stOf k) x hq16 hx3
    have hn := mc_n hok (stOf k) x hq16 hx3
    have o0 := hg.o_lt (stOf k) x hq hx
    have n0 := hg.n_lt (stOf k) x hq hx
    have Ho : Hid ((outG M k x : Int) = M.o (stOf k) x) := Lib.hid (by unfold outG; rw [if_pos hp]; omega)
    have Hn : Hid (nextG M k x = M.n (stOf k) x + 1) := Lib.hid (by unfold nextG; rw [if_pos hp])
    generalize M.o (stOf k) x = ov at *
    generalize M.n (stOf k) x = nv at *
    clear i1 i2 hkk hq hk hB1 hB2
    go_enter Try.func147, Try.ntmps147
    go_wp2_with (go_at_call 163; refine (l02State_calls k k0 k1 k2 _).mono ?_; rintro e w' ⟨rfl, rfl⟩)
    go_quiet (fail)
    go_wp2
    go_ret2
    exact ⟨ret_bi Ho.out.symm Hn.out.symm, by (repeat (first | exact Below.refl _ _ | refine below_drew' ?_ | refine below_drewN' ?_ _ | refine below_alloc' ?_ _ | refine below_set' ?_ (by (try simp); (try omega)) _ | refine below_step ?_ (by assumption)))⟩
  · have ho := mc_o hIok (stOf k) x hq16 hx3
    have hn := mc_n hIok (stOf k) x hq16 hx3
    have hbk := (hg.bk_at (stOf k) x hq hx).1
    have n0 := hg.n_lt (stOf k) (bk M (stOf k) x) hq hbk
    rw [i1] at ho
    rw [i2] at hn
    have Ho : Hid ((outG M k x : Int) = (bk M (stOf k) x : Int)) := Lib.hid (by unfold outG; rw [if_neg hp])
    have Hn : Hid (nextG M k x = -(M.n (stOf k) (bk M (stOf k) x)) - 1) := Lib.hid (by unfold nextG; rw [if_neg hp])
    generalize M.n (stOf k) (bk M (stOf k) x) = nv at *
    generalize bk M (stOf k) x = ov at *
    clear i1 i2 hkk hq hk hB1 hB2
    go_enter Try.func147, Try.ntmps147
    go_wp2_with (go_at_call 163; refine (l02State_calls k k0 k1 k2 _).mono ?_; rintro e w' ⟨rfl, rfl⟩)
    go_quiet (fail)
    go_wp2
    go_ret2
    exact ⟨ret_bi Ho.out.symm (by rw [Hn.out]; omega), by (repeat (first | exact Below.refl _ _ | refine below_drew' ?_ | refine below_drewN' ?_ _ | refine below_alloc' ?_ _ | refine below_set' ?_ (by (try simp); (try omega)) _ | refine below_step ?_ (by assumption)))⟩

/-- A machine lies at the head of block b. -/
def MAt (w : World) (b : Nat) (M : Mach) : Prop := ∃ (c : Array Value) (T : TypeId), Blk w b c T ∧ ∀ o, o < 98 → c[o]? = (mc M)[o]?
theorem Blk.mat {w : World} {b : Nat} {M : Mach} {T : TypeId} (h : Blk w b (mc M) T) : MAt w b M := ⟨_, _, h, fun _ _ => rfl⟩
theorem MAt.lt {w : World} {b : Nat} {M : Mach} (h : MAt w b M) : b < w.heap.size := by obtain ⟨c, T, hB, _⟩ := h; exact hB.lt
theorem MAt.kept {w w1 : World} {b B : Nat} {M : Mach} (h : MAt w b M) (hb : Below B w w1) (hlt : b < B) : MAt w1 b M := by obtain ⟨c, T, hB, hc⟩ := h; exact ⟨c, T, hB.kept hb hlt, hc⟩
theorem MAt.keptAll {w w1 : World} {b : Nat} {M : Mach} (h : MAt w b M) (hb : Below w.heap.size w w1) : MAt w1 b M := h.kept hb h.lt
theorem MAt.same {w w1 : World} {b : Nat} {M : Mach} (h : MAt w b M) (e : w1.heap[b]? = w.heap[b]?) : MAt w1 b M := by obtain ⟨c, T, hB, hc⟩ := h; exact ⟨c, T, e.trans hB, hc⟩
theorem MAt.at {w : World} {b : Nat} {M : Mach} (h : MAt w b M) (o : Nat) (ho : o < 98) : w.cell? ⟨b, o, none⟩ = (mc M)[o]? := by obtain ⟨c, T, hB, hc⟩ := h; rw [hB.cell, hc o ho]

/-- The guide of a state, whose machine lies in block b. -/
def gd (b : Nat) (q : Int) : Value := .agg #[.pointer (some ⟨b, 0, none⟩), .int .i64 q]

set_option maxRecDepth 100000 in
set_option maxHeartbeats 1000000 in
theorem forward_calls (M : Mach) (L S : Nat) (hg : Good M L S) (b : Nat) (k : Int) (hk : numOk S k = true) (hp : 0 < k) (x : Nat) (hx : x < L) (w : World) (hM : MAt w b M) :
    Calls Try.prog 173 #[gd b (k - 1), .int .u8 x] w fun e w' => e = .returned (.tuple #[.int .u8 (outG M k x), .int .i64 (nextG M k x)]) ∧ Below w.heap.size w w' := by
  obtain ⟨c, T, hB, hMc⟩ := hM
  have hok := hg.ok
  have hL3 := hg.L3
  have hS16 := hg.S16
  have hq := stOf_lt hk
  have hs := stOf_pos hp
  have ho := (hMc _ (by omega)).trans (mc_o hok (stOf k) x (by omega) (by omega))
  have hn := (hMc _ (by omega)).trans (mc_n hok (stOf k) x (by omega) (by omega))
  have o0 := hg.o_lt (stOf k) x hq hx
  have n0 := hg.n_lt (stOf k) x hq hx
  have Ho : Hid ((outG M k x : Int) = M.o (stOf k) x) := Lib.hid (by unfold outG; rw [if_pos hp]; omega)
  have Hn : Hid (nextG M k x = M.n (stOf k) x + 1) := Lib.hid (by unfold nextG; rw [if_pos hp])
  rw [← hs]
  generalize M.o (stOf k) x = ov at *
  generalize M.n (stOf k) x = nv at *
  generalize stOf k = q at *
  have hq16 : q < 16 := by omega
  have hqi : (q : Int) < 16 := by omega
  have hxi : (x : Int) < 3 := by omega
  have hlt := hB.lt
  have hB1 : Blk (w.alloc (.cells #[.pointer (some ⟨b, 0, none⟩), .int .i64 q] 201)) b c T := hB.alloc _
  have hB2 : Blk (w.alloc (.cells #[.pointer (some ⟨b, 0, none⟩), .int .i64 q] 201)) w.heap.size #[.pointer (some ⟨b, 0, none⟩), .int .i64 q] 201 := Blk.new _ _ _
  have cA := hB1.cell
  have cB := hB2.cell
  have hbw : Below w.heap.size w (w.alloc (.cells #[.pointer (some ⟨b, 0, none⟩), .int .i64 q] 201)) := by (repeat (first | exact Below.refl _ _ | refine below_drew' ?_ | refine below_drewN' ?_ _ | refine below_alloc' ?_ _ | refine below_set' ?_ (by (try simp); (try omega)) _ | refine below_step ?_ (by assumption)))
  unfold gd
  clear hk hq hs hp hB hB1 hB2 hMc
  go_enter Try.func173, Try.ntmps173
  go_wp2
  go_quiet (fail)
  go_wp2
  go_ret2
  exact ⟨ret_bi Ho.out.symm Hn.out.symm, by (repeat (first | exact Below.refl _ _ | refine below_drew' ?_ | refine below_drewN' ?_ _ | refine below_alloc' ?_ _ | refine below_set' ?_ (by (try simp); (try omega)) _ | refine below_step ?_ (by assumption)))⟩
end Go.Proofs.Ytliohokcjgcmhaa

namespace Go.Proofs.Ytliohokcjgcmhaa
open Go.RowKit

set_option maxRecDepth 100000 in
set_option maxHeartbeats 1000000 in
theorem backward_calls (M : Mach) (L S : Nat) (hg : Good M L S) (b : Nat) (k : Int) (hk : numOk S k = true) (hp : ¬ 0 < k) (x : Nat) (hx : x < L) (w : World) (hM : MAt w b M) :
    Calls Try.prog 174 #[gd b (-k - 1), .int .u8 x] w fun e w' => e = .returned (.tuple #[.int .u8 (outG M k x), .int .i64 (nextG M k x)]) ∧ Below w.heap.size w w' := by
  obtain ⟨c, T, hB, hMc⟩ := hM
  have hok := hg.ok
  have hL3 := hg.L3
  have hS16 := hg.S16
  have hq := stOf_lt hk
  have hs := stOf_neg ((numOk_iff _ _).1 hk).1 hp
  obtain ⟨b1, b2, b3⟩ := hg.bk_at (stOf k) x hq hx
  have hn := (hMc _ (by omega)).trans (mc_n hok (stOf k) (bk M (stOf k) x) (by omega) (by omega))
  have n0 := hg.n_lt (stOf k) (bk M (stOf k) x) hq b1
  have ho : ∀ y : Nat, y < L → c[50 + stOf k * 3 + y]? = some (.int .u8 (M.o (stOf k) y)) := fun y hy => (hMc _ (by omega)).trans (mc_o hok (stOf k) y (by omega) (by omega))
  have Ho : Hid ((outG M k x : Int) = (bk M (stOf k) x : Int)) := Lib.hid (by unfold outG; rw [if_neg hp])
  have Hn : Hid (nextG M k x = -(M.n (stOf k) (bk M (stOf k) x)) - 1) := Lib.hid (by unfold nextG; rw [if_neg hp])
  have Hb2 := Lib.hid b2; have Hb3 := Lib.hid b3; have Hoc := Lib.hid ho
  rw [← hs]
  clear b2 b3 ho hs
  generalize hov : M.o (stOf k) = ov at *
  clear hov
  generalize M.n (stOf k) (bk M (stOf k) x) = nv at *
  generalize bk M (stOf k) x = y0 at *
  generalize stOf k = q at *
  have hq16 : q < 16 := by omega
  have hqi : (q : Int) < 16 := by omega
  have hlt := hB.lt
  have hB1 : Blk (w.alloc (.cells #[.pointer (some ⟨b, 0, none⟩), .int .i64 q] 201)) b c T := hB.alloc _
  have hB2 : Blk (w.alloc (.cells #[.pointer (some ⟨b, 0, none⟩), .int .i64 q] 201)) w.heap.size #[.pointer (some ⟨b, 0, none⟩), .int .i64 q] 201 := Blk.new _ _ _
  have cA := hB1.cell
  have cB := hB2.cell
  have hbw : Below w.heap.size w (w.alloc (.cells #[.pointer (some ⟨b, 0, none⟩), .int .i64 q] 201)) := by (repeat (first | exact Below.refl _ _ | refine below_drew' ?_ | refine below_drewN' ?_ _ | refine below_alloc' ?_ _ | refine below_set' ?_ (by (try simp); (try omega)) _ | refine below_step ?_ (by assumption)))
  unfold gd
  clear hk hq hp hB hB1 hB2 hMc
  go_enter Try.func174, Try.ntmps174
  go_wp2
  generalize w.alloc (.cells #[.pointer (some ⟨b, 0, none⟩), .int .i64 q] 201) = W0 at *
  go_loopw [6] (fun y wr => ∃ j : Nat, j ≤ y0 ∧ y = .int .u8 j ∧ (∃ nd, wr = W0.drewN nd)) (fun y _ => y0 - (intOf y).toNat)
  case atStart => exact ⟨0, by omega, rfl, ⟨0, rfl⟩⟩
  case round =>
    obtain ⟨j, hj, rfl, ⟨nd, rfl⟩⟩ := hrel
    have hji : (j : Int) < 3 := by omega
    have hoj := Hoc.out j (by omega)
    by_cases hlt : j < y0
    · have hne : (ov j != (x : Int)) = true := by have := Hb3.out j hlt; simpa using this
      go_wp2
      go_quiet (fail)
      go_wp2
      go_roundw
      case rel => exact ⟨j + 1, by omega, by go_num, ⟨_, rfl⟩⟩
      case measure => simp [intOf] <;> omega
    · obtain rfl : j = y0 := by omega
      have hne : (ov j != (x : Int)) = false := by have := Hb2.out; simpa using this
      go_wp2
      go_quiet (fail)
      go_wp2
      go_quiet (fail)
      go_wp2
      go_ret2
      exact ⟨ret_bi Ho.out.symm (by rw [Hn.out]), by (repeat (first | exact Below.refl _ _ | refine below_drew' ?_ | refine below_drewN' ?_ _ | refine below_alloc' ?_ _ | refine below_set' ?_ (by (try simp); (try omega)) _ | refine below_step ?_ (by assumption)))⟩

/-- What a number of a group word is as a step. -/
def gv (b : Nat) (k : Int) : Value := if 0 < k then .func (.func 173) #[gd b (k - 1)] #[] else .func (.func 174) #[gd b (-k - 1)] #[]
/-- The cells of the first k steps; nil behind. -/
def stC (b : Nat) (zs : List Int) (k : Nat) : Array Value := ((zs.take k).map (gv b) ++ List.replicate (zs.length - k) Value.nilFunc).toArray
theorem stC_zero (b : Nat) (zs : List Int) : stC b zs 0 = (List.replicate zs.length Value.nilFunc).toArray := by simp [stC]
theorem stC_all (b : Nat) (zs : List Int) : stC b zs zs.length = (zs.map (gv b)).toArray := by simp [stC]
theorem stC_size (b : Nat) (zs : List Int) (k : Nat) (h : k ≤ zs.length) : (stC b zs k).size = zs.length := by simp [stC]; omega
theorem stC_set (b : Nat) (zs : List Int) (k : Nat) (h : k < zs.length) : (stC b zs k).setIfInBounds k (gv b zs[k]) = stC b zs (k + 1) := by
  simp only [stC, List.setIfInBounds_toArray]
  congr 1
  rw [List.set_append_right _ _ (by simp; omega), show k - ((zs.take k).map (gv b)).length = 0 from by simp; omega, show zs.length - k = (zs.length - (k + 1)) + 1 from by omega, List.replicate_succ, List.set_cons_zero, List.take_succ_eq_append_getElem h, List.map_append, List.append_assoc]
  rfl
theorem infoF : (Try.prog.info? 202).map (fun i => (i.zero, i.size, i.bytes)) = some (some .nilFunc, 1, 8) := by kernel_rfl
theorem made_steps (n : Nat) : madeCells (Value.nilFunc).cells n = (List.replicate n Value.nilFunc).toArray := by
  apply Array.ext
  · simp [madeCells, Value.cells]
  · intro i h1 h2
    simp [madeCells, Value.cells, Nat.mod_one]
theorem mk_steps (n : Nat) (hn : n ≤ 1048576) (W : World) : (Instr.makeSlice 185 (.int .i64 n) (.int .i64 n)).run Try.prog W = .ok (.slice (some ⟨W.heap.size, 0, none⟩) n n) (W.alloc (.cells ((List.replicate n Value.nilFunc).toArray) 202)) := by
  obtain ⟨i0, hi, hz0, hz1, hz2⟩ := info_parts infoF
  have := run_make (P := Try.prog) W 185 202 i0 .nilFunc Try.underlying185 hi hz0 .i64 .i64 n n (by omega) (by omega) (by rw [hz2]; omega) (by omega)
  rwa [hz1, Int.toNat_natCast, Nat.mul_one, made_steps] at this
/-- Small numbers. -/
def smallG (zs : List Int) : Prop := ∀ z ∈ zs, -16 ≤ z ∧ z ≤ 16
theorem smallG_of {S : Nat} (hS : S ≤ 16) {zs : List Int} (h : numsOk S zs = true) : smallG zs := fun z hz => by
  have := (numOk_iff _ _).1 ((List.all_eq_true.1 h) z hz); omega

set_option maxRecDepth 100000 in
set_option maxHeartbeats 1000000 in
theorem stepsOf_calls (b : Nat) (v : Value) (zs : List Int) (hz : smallG zs) (hn : zs.length ≤ 1048576) (w : World) (hv : SeesI w v zs) :
    Calls Try.prog 160 #[.pointer (some ⟨b, 0, none⟩), v] w fun e w' => ∃ g, e = .returned (.slice (some ⟨g, 0, none⟩) zs.length zs.length) ∧ w.heap.size ≤ g ∧ Blk w' g (zs.map (gv b)).toArray 202 ∧ Below w.heap.size w w' := by
  obtain ⟨oa, cap, rfl, hc⟩ := hv.view
  have Hc := Lib.hid hc; clear hc hv
  have hmk := mk_steps zs.length hn
  have hB0 : Blk (w.alloc (.cells (stC b zs 0) 202)) w.heap.size (stC b zs 0) 202 := Blk.new w _ _
  rw [stC_zero] at hB0
  have hbw0 : Below w.heap.size w (w.alloc (.cells ((List.replicate zs.length Value.nilFunc).toArray) 202)) := by (repeat (first | exact Below.refl _ _ | refine below_drew' ?_ | refine below_drewN' ?_ _ | refine below_alloc' ?_ _ | refine below_set' ?_ (by (try simp); (try omega)) _ | refine below_step ?_ (by assumption)))
  have hmf : ∀ (fn : Fn) (first cap : Array Value) (w : World), (Instr.makeFunc fn first cap).run Try.prog w = .ok (.func fn first cap) w := fun _ _ _ _ => rfl
  have Hz := Lib.hid hz; clear hz
  go_enter Try.func160, Try.ntmps160
  go_wp2
  go_loopw [13] (fun i wr => ∃ k : Nat, k ≤ zs.length ∧ i = .int .i64 k ∧ Blk wr w.heap.size (stC b zs k) 202 ∧ Below w.heap.size w wr) (fun i _ => zs.length - (intOf i).toNat)
  case atStart => exact ⟨0, by omega, rfl, by rw [stC_zero]; exact hB0, hbw0⟩
  case round =>
    clear hB0 hbw0 hmk
    obtain ⟨k, hk, rfl, hB, hbw⟩ := hrel
    by_cases hlt : k < zs.length
    · obtain ⟨g, rfl, _, hcell⟩ := Hc.out (by omega)
      have c1 := cell_kept hbw (hcell k hlt)
      have hki : (k : Int) < zs.length := by omega
      have hsz := stC_size b zs k hk
      have hs : (stC b zs k)[k]? = some ((stC b zs k)[k]'(by omega)) := Array.getElem?_eq_getElem _
      generalize (stC b zs k)[k]'(by omega) = old at hs
      obtain ⟨z1, z2⟩ := Hz.out _ (List.getElem_mem hlt)
      have Hset := Lib.hid (stC_set b zs k hlt)
      have cC := hB.cell
      have fC := hB.free
      have hB2 := hB.set k (gv b zs[k])
      have hbw2 := below_set' (o := k) hbw (b := w.heap.size) (Nat.le_refl _) (gv b zs[k])
      rw [Hset.out] at hB2
      clear hsz hcell hB hbw
      by_cases hp : 0 < zs[k]
      · have Hg : Hid (gv b zs[k] = .func (.func 173) #[.agg #[.pointer (some ⟨b, 0, none⟩), .int .i64 (zs[k] - 1)]] #[]) := Lib.hid (by unfold gv gd; rw [if_pos hp])
        rw [Hg.out] at hB2 hbw2
        clear Hg
        generalize zs[k] = z at *
        go_wp2
        go_roundw
        case rel => exact ⟨k + 1, by omega, by go_num, hB2, hbw2⟩
        case measure => simp [intOf] <;> omega
      · have Hg : Hid (gv b zs[k] = .func (.func 174) #[.agg #[.pointer (some ⟨b, 0, none⟩), .int .i64 (-zs[k] - 1)]] #[]) := Lib.hid (by unfold gv gd; rw [if_neg hp])
        rw [Hg.out] at hB2 hbw2
        clear Hg
        generalize zs[k] = z at *
        go_wp2
        go_roundw
        case rel => exact ⟨k + 1, by omega, by go_num, hB2, hbw2⟩
        case measure => simp [intOf] <;> omega
    · obtain rfl : k = zs.length := by omega
      rw [stC_all] at hB
      go_wp2
      go_ret
      exact ⟨_, rfl, Nat.le_refl _, hB, hbw⟩
end Go.Proofs.Ytliohokcjgcmhaa

namespace Go.Proofs.Ytliohokcjgcmhaa
open Go.RowKit

set_option maxRecDepth 100000 in
set_option maxHeartbeats 1000000 in
theorem throughSteps_calls (M : Mach) (L S : Nat) (hg : Good M L S) (b g : Nat) (zs : List Int) (hz : numsOk S zs = true) (hn : zs.length ≤ 1048576) (x : Nat) (hx : x < L) (w : World) (hB : MAt w b M) (hG : Blk w g (zs.map (gv b)).toArray 202) :
    Calls Try.prog 161 #[.slice (some ⟨g, 0, none⟩) zs.length zs.length, .int .u8 x] w fun e w' => ∃ v, e = .returned (.tuple #[.int .u8 (ledG M zs x).1, v]) ∧ OwnI w' w.heap.size v (ledG M zs x).2 ∧ Below w.heap.size w w' := by
  have hmk := mk_ints zs.length hn
  obtain ⟨q1, q2, q3⟩ := ledG_all hg zs hz x hx
  have HL2 := Lib.hid q2; clear q1 q2 q3
  have Hgood := Lib.hid (ledG_good hg zs hz x hx)
  have HZ := Lib.hid hz; clear hz
  have hltB := hB.lt
  have hltG := hG.lt
  have hB0 : Blk (w.alloc (.cells (ints (List.replicate zs.length 0)) 2)) w.heap.size (ints (List.replicate zs.length 0)) 2 := Blk.new w _ _
  have hbw0 : Below w.heap.size w (w.alloc (.cells (ints (List.replicate zs.length 0)) 2)) := by (repeat (first | exact Below.refl _ _ | refine below_drew' ?_ | refine below_drewN' ?_ _ | refine below_alloc' ?_ _ | refine below_set' ?_ (by (try simp); (try omega)) _ | refine below_step ?_ (by assumption)))
  have HBw := Lib.hid hB; have HGw := Lib.hid hG
  clear hB hG
  go_enter Try.func161, Try.ntmps161
  go_wp2
  go_loopw [1, 14] (fun xv i wr => ∃ k : Nat, k ≤ zs.length ∧ i = .int .i64 k ∧ xv = .int .u8 ((ledG M (zs.take k) x).1 : Nat) ∧ Blk wr w.heap.size (ints ((ledG M (zs.take k) x).2 ++ List.replicate (zs.length - k) 0)) 2 ∧ Below w.heap.size w wr) (fun _ i _ => zs.length - (intOf i).toNat)
  case atStart => exact ⟨0, by omega, rfl, rfl, by simpa [ledG] using hB0, hbw0⟩
  case round =>
    clear hB0 hbw0 hmk
    obtain ⟨k, hk, rfl, rfl, hC, hbw⟩ := hrel
    obtain ⟨g1, g2, g3⟩ := Hgood.out k hk
    by_cases hlt : k < zs.length
    · have hki : (k : Int) < zs.length := by omega
      have hok := numsOk_at HZ.out k hlt
      have hBr := HBw.out.kept hbw hltB
      have hGr := HGw.out.kept hbw hltG
      have cG := hGr.cell k
      rw [show ((zs.map (gv b)).toArray)[k]? = some (gv b zs[k]) from by simp [hlt]] at cG
      have hst := ledG_take M zs k hlt x
      have Hnext : Hid (((ledG M (zs.take k) x).2 ++ List.replicate (zs.length - k) 0).set k (nextG M zs[k] (ledG M (zs.take k) x).1) = (ledG M (zs.take (k + 1)) x).2 ++ List.replicate (zs.length - (k + 1)) 0) := Lib.hid (by
        rw [hst, List.set_append_right _ _ (by omega), show k - (ledG M (zs.take k) x).2.length = 0 from by omega, show zs.length - k = (zs.length - (k + 1)) + 1 from by omega, List.replicate_succ, List.set_cons_zero, List.append_assoc]; rfl)
      have Hout : Hid ((ledG M (zs.take (k + 1)) x).1 = outG M zs[k] (ledG M (zs.take k) x).1) := Lib.hid (by rw [hst])
      have hcs : (ints ((ledG M (zs.take k) x).2 ++ List.replicate (zs.length - k) 0)).size = zs.length := by rw [ints_size]; simp; omega
      have hs : (ints ((ledG M (zs.take k) x).2 ++ List.replicate (zs.length - k) 0))[k]? = some ((ints ((ledG M (zs.take k) x).2 ++ List.replicate (zs.length - k) 0))[k]'(by omega)) := Array.getElem?_eq_getElem _
      generalize (ints ((ledG M (zs.take k) x).2 ++ List.replicate (zs.length - k) 0))[k]'(by omega) = old at hs
      clear hst hcs g2 g3
      generalize (ledG M (zs.take k) x).1 = y at *
      generalize (ledG M (zs.take k) x).2 ++ List.replicate (zs.length - k) 0 = cur at *
      generalize zs[k] = z at *
      by_cases hp : 0 < z
      · have Hg : Hid (gv b z = .func (.func 173) #[gd b (z - 1)] #[]) := Lib.hid (by unfold gv; rw [if_pos hp])
        rw [Hg.out] at cG
        clear Hg
        unfold gd at cG
        go_wp2_with (go_at_call 173; refine (forward_calls M L S hg b z hok hp y g1 _ hBr).mono ?_; rintro e w1 ⟨rfl, hb1⟩; have hC1 := hC.keptAll hb1; have hbw1 := below_step hbw hb1; have cC := hC1.cell; have fC := hC1.free; have hC2 := hC1.set k (.int .i64 (nextG M z y)); have hbw2 := below_set' (o := k) hbw1 (b := w.heap.size) (Nat.le_refl _) (.int .i64 (nextG M z y)); rw [← ints_set, Hnext.out] at hC2)
        go_roundw
        case rel => exact ⟨k + 1, by omega, by go_num, by rw [Hout.out], hC2, hbw2⟩
        case measure => simp [intOf] <;> omega
      · have Hg : Hid (gv b z = .func (.func 174) #[gd b (-z - 1)] #[]) := Lib.hid (by unfold gv; rw [if_neg hp])
        rw [Hg.out] at cG
        clear Hg
        unfold gd at cG
        go_wp2_with (go_at_call 174; refine (backward_calls M L S hg b z hok hp y g1 _ hBr).mono ?_; rintro e w1 ⟨rfl, hb1⟩; have hC1 := hC.keptAll hb1; have hbw1 := below_step hbw hb1; have cC := hC1.cell; have fC := hC1.free; have hC2 := hC1.set k (.int .i64 (nextG M z y)); have hbw2 := below_set' (o := k) hbw1 (b := w.heap.size) (Nat.le_refl _) (.int .i64 (nextG M z y)); rw [← ints_set, Hnext.out] at hC2)
        go_roundw
        case rel => exact ⟨k + 1, by omega, by go_num, by rw [Hout.out], hC2, hbw2⟩
        case measure => simp [intOf] <;> omega
    · obtain rfl : k = zs.length := by omega
      rw [List.take_length, Nat.sub_self, List.replicate_zero, List.append_nil] at hC
      rw [List.take_length] at g1 g2 g3
      have hOw : OwnI wr w.heap.size (.slice (some ⟨w.heap.size, 0, none⟩) zs.length zs.length) (ledG M zs x).2 := OwnI.made HL2.out (by unfold maxLen; omega) (Nat.le_refl _) hC
      rw [List.take_length]
      clear g1 g2 g3 Hgood
      go_wp2
      go_ret2
      exact ⟨_, rfl, hOw, hbw⟩

set_option maxRecDepth 100000 in
set_option maxHeartbeats 1000000 in
theorem l02Led_calls (M : Mach) (L S : Nat) (hg : Good M L S) (v : Value) (zs : List Int) (hz : numsOk S zs = true) (hn : zs.length ≤ 1048575) (x : Nat) (hx : x < L) (w : World) (hv : SeesI w v zs) :
    Calls Try.prog 91 #[.agg (mc M), .agg (mc (invM M L S)), v, .int .u8 x] w fun e w' => ∃ v', e = .returned (.tuple #[.int .u8 (ledG M zs x).1, v']) ∧ OwnI w' w.heap.size v' (ledG M zs x).2 ∧ Below w.heap.size w w' := by
  have hok := hg.ok
  have hIok := invM_ok hok L S hg.L3
  have F1 : Hid (cut (mc M) 0 98 = mc M) := Lib.hid (cut_all _ _ (mc_size hok))
  have F2 : Hid (0 + 98 ≤ (mc M).size) := Lib.hid (by rw [mc_size hok]; omega)
  have F3 : Hid (cut (mc (invM M L S)) 0 98 = mc (invM M L S)) := Lib.hid (cut_all _ _ (mc_size hIok))
  have F4 : Hid (0 + 98 ≤ (mc (invM M L S)).size) := Lib.hid (by rw [mc_size hIok]; omega)
  have Hgood := Lib.hid (ledG_good hg zs hz x hx)
  have HZ := Lib.hid hz; clear hz
  have hB1 : Blk (((w.alloc (.cells (mc M) 27)).alloc (.cells (mc (invM M L S)) 27)).alloc (.cells #[] 2)) w.heap.size (mc M) 27 := ((Blk.new w _ _).alloc _).alloc _
  have hB2 : Blk (((w.alloc (.cells (mc M) 27)).alloc (.cells (mc (invM M L S)) 27)).alloc (.cells #[] 2)) (w.heap.size + 1) (mc (invM M L S)) 27 := (Blk.new_at _ _ _ _ (by simp)).alloc _
  have hO0 : OwnI (((w.alloc (.cells (mc M) 27)).alloc (.cells (mc (invM M L S)) 27)).alloc (.cells #[] 2)) (w.heap.size + 2) (.slice (some ⟨w.heap.size + 2, 0, none⟩) 0 0) [] := by
    have := OwnI.empty ((w.alloc (.cells (mc M) 27)).alloc (.cells (mc (invM M L S)) 27)) (w.heap.size + 2) 0 #[] (by simp) (by simp) rfl
    simpa using this
  have hbw0 : Below w.heap.size w (((w.alloc (.cells (mc M) 27)).alloc (.cells (mc (invM M L S)) 27)).alloc (.cells #[] 2)) := by (repeat (first | exact Below.refl _ _ | refine below_drew' ?_ | refine below_drewN' ?_ _ | refine below_alloc' ?_ _ | refine below_set' ?_ (by (try simp); (try omega)) _ | refine below_step ?_ (by assumption)))
  have hvlt := hv.lt
  obtain ⟨oa, cap, hve, hc⟩ := hv.view
  subst hve
  have Hc := Lib.hid hc
  clear hc hv
  go_enter Try.func91, Try.ntmps91
  go_wp2
  go_loopw [3, 10, 11] (fun xv ov i wr => ∃ (k : Nat) (v0 : Value), k ≤ zs.length ∧ i = .int .i64 k ∧ xv = .int .u8 ((ledG M (zs.take k) x).1 : Nat) ∧ v0 = ov ∧ Blk wr w.heap.size (mc M) 27 ∧ Blk wr (w.heap.size + 1) (mc (invM M L S)) 27 ∧ OwnI wr (w.heap.size + 2) v0 (ledG M (zs.take k) x).2 ∧ Below w.heap.size w wr) (fun _ _ i _ => zs.length - (intOf i).toNat)
  case atStart => exact ⟨0, _, by omega, rfl, rfl, rfl, hB1, hB2, by simpa [ledG] using hO0, hbw0⟩
  case round =>
    clear hB1 hB2 hO0 hbw0
    obtain ⟨k, v0, hk, rfl, rfl, rfl, hB1, hB2, hO, hbw⟩ := hrel
    obtain ⟨g1, g2, g3⟩ := Hgood.out k hk
    by_cases hlt : k < zs.length
    · obtain ⟨g, rfl, hgl, hcell⟩ := Hc.out (by omega)
      have hki : (k : Int) < zs.length := by omega
      have hok1 := numsOk_at HZ.out k hlt
      have c1 : Hid (∀ W, Below w.heap.size w W → W.cell? ⟨g, k, none⟩ = some (.int .i64 zs[k])) := Lib.hid (fun W hW => cell_kept hW (hcell k hlt))
      have hst := ledG_take M zs k hlt x
      have Hout : Hid ((ledG M (zs.take (k + 1)) x).1 = outG M zs[k] (ledG M (zs.take k) x).1) := Lib.hid (by rw [hst])
      have Hnext : Hid ((ledG M (zs.take (k + 1)) x).2 = (ledG M (zs.take k) x).2 ++ [nextG M zs[k] (ledG M (zs.take k) x).1]) := Lib.hid (by rw [hst])
      have Hlen := Lib.hid g2
      clear hst hcell g2 g3
      generalize (ledG M (zs.take k) x).1 = y at *
      generalize (ledG M (zs.take k) x).2 = cur at *
      generalize zs[k] = z at *
      go_wp2_with fail
      refine wp_region_quiet (C := fun W => (Blk W w.heap.size (mc M) 27 ∧ Blk W (w.heap.size + 1) (mc (invM M L S)) 27) ∧ OwnI W (w.heap.size + 2) v0 cur ∧ Below w.heap.size w W) (by kernel_rfl) (by kernel_rfl) ⟨⟨hB1.drew, hB2.drew⟩, hO.below (by (repeat (first | exact Below.refl _ _ | refine below_drew' ?_ | refine below_drewN' ?_ _ | refine below_alloc' ?_ _ | refine below_set' ?_ (by (try simp); (try omega)) _ | refine below_step ?_ (by assumption)))), hbw.drew⟩ ?_
      refine wpK_load rfl 27 _ rfl w.heap.size 0 rfl (mc M) _ (fun W hW => hW.1.1) 98 F2.out _ Try.underlying27 rfl size_mach _ F1.out ?_; (intro K hK; go_simp; refine hK _ ?_; clear hK K)
      refine wpK_load rfl 27 _ rfl (w.heap.size + 1) 0 rfl (mc (invM M L S)) _ (fun W hW => hW.1.2) 98 F4.out _ Try.underlying27 rfl size_mach _ F3.out ?_; (intro K hK; go_simp; refine hK _ ?_; clear hK K)
      refine wpK_val rfl (.slice (some ⟨g, 0, none⟩) zs.length cap) (fun W _ => by go_simp) ?_; (intro K hK; go_simp; refine hK _ ?_; clear hK K)
      refine wpK_val rfl (.int .i64 (k : Int)) (fun W _ => by go_simp) ?_; (intro K hK; go_simp; refine hK _ ?_; clear hK K)
      refine wpK_val rfl (.pointer (some ⟨g, k, none⟩)) (fun W _ => by go_simp) ?_; (intro K hK; go_simp; refine hK _ ?_; clear hK K)
      refine wpK_val rfl (.int .i64 z) (fun W hW => by have c2 := c1.out W hW.2.2; clear hW; go_simp) ?_; (intro K hK; go_simp; refine hK _ ?_; clear hK K)
      refine wpK_val rfl (.int .u8 (y : Int)) (fun W _ => by go_simp) ?_; (intro K hK; go_simp; refine hK _ ?_; clear hK K)
      refine wpK_call rfl 147 #[.agg (mc M), .agg (mc (invM M L S)), .int .i64 z, .int .u8 (y : Int)] (.tuple #[.int .u8 (outG M z y), .int .i64 (nextG M z y)]) (fun W => by go_simp) (fun W hW => (l02Step_calls M L S hg z hok1 y g1 W).mono fun e w'' h => ⟨h.1, ⟨hW.1.1.keptAll h.2, hW.1.2.keptAll h.2⟩, hW.2.1.below h.2, below_step hW.2.2 h.2⟩) ?_; (intro K hK; go_simp; refine hK _ ?_; clear hK K)
      refine wpK_val rfl (.tuple #[.int .u8 (outG M z y), .int .i64 (nextG M z y)]) (fun W _ => by go_simp) ?_; (intro K hK; go_simp; refine hK _ ?_; clear hK K)
      refine wpK_val rfl (.int .u8 (outG M z y)) (fun W _ => by go_simp) ?_; (intro K hK; go_simp; refine hK _ ?_; clear hK K)
      refine wpK_val rfl (.int .i64 (nextG M z y)) (fun W _ => by go_simp) ?_; (intro K hK; go_simp; refine hK _ ?_; clear hK K)
      refine wpK_val rfl (.int .u8 (outG M z y)) (fun W _ => by go_simp) ?_; (intro K hK; go_simp; refine hK _ ?_; clear hK K)
      refine wpK_val rfl (.int .i64 (nextG M z y)) (fun W _ => by go_simp) ?_; (intro K hK; go_simp; refine hK _ ?_; clear hK K)
      refine wpQuiet_nil ?_
      rintro w3 ⟨⟨hB1', hB2'⟩, hO', hbw'⟩
      have hsz0 := hbw'.size
      have hlt1 := hB1'.lt
      have hlt2 := hB2'.lt
      clear hB1 hB2 hO hbw
      go_wp2_with (at_builtin; refine wpList_push_int rfl (.tmp 33) (.tmp 35) rfl (w.heap.size + 2) _ cur rfl (hO'.below (Below.alloc (Below.refl _ _) (Nat.le_refl _) (.cells #[.int .i64 (nextG M z y)] 2))) w3.heap.size 1 (nextG M z y) rfl (Blk.new w3 _ _) (by rw [Hlen.out]; omega) (by simp; omega) ?_; intro v1 w4 hO1 hb1; have hB11 := (hB1'.alloc (.cells #[.int .i64 (nextG M z y)] 2)).kept hb1 (by omega); have hB12 := (hB2'.alloc (.cells #[.int .i64 (nextG M z y)] 2)).kept hb1 (by omega))
      go_roundw
      case rel => exact ⟨k + 1, _, by omega, by go_num, by rw [Hout.out], rfl, hB11, hB12, by rw [Hnext.out]; exact hO1, (hbw'.alloc hbw'.size _).trans (below_le hb1 (by omega))⟩
      case measure => simp [intOf] <;> omega
    · obtain rfl : k = zs.length := by omega
      rw [List.take_length] at hO g1
      rw [List.take_length]
      clear g2 g3 g1 Hgood
      go_wp2
      go_ret2
      exact ⟨_, rfl, hO.base_le (by omega), hbw⟩
end Go.Proofs.Ytliohokcjgcmhaa
